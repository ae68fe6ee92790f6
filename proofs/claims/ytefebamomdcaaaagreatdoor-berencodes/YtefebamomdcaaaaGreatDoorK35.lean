/-
  The law BerBack: a tree that is laid is read as it was.
-/
import Derived.Test.YtefebamomdcaaaaGreatDoorK34
namespace Go.Proofs.YtefebamomdcaaaaGreatDoor
open Go.RowKit
theorem nds_u8 : ∀ (L : List Te), (∀ x ∈ L, standB x = true ∧ U8s x.d) → byt (nds L) < 281474976710656 → U8s (bytesOf (nds L))
  | [], _, _ => by intro y hy; simp [nds, bytesOf] at hy
  | x :: r, h, hb => by
    have h1 := h x (List.mem_cons_self ..)
    have hi := inn_le x.dp (nds r)
    have hbn : byt (nds (x :: r)) = ndL (x, frontB x (x.d.length + byt (inn x.dp (nds r)))) + byt (nds r) := by rw [nds]; simp only [byt]
    have hd : x.d.length ≤ ndL (x, frontB x (x.d.length + byt (inn x.dp (nds r)))) := by unfold ndL; simp only []; omega
    rw [nds, bytesOf_cons]
    exact (front_u8 h1.1 (by omega)).append (h1.2.append (nds_u8 r (fun y hy => h y (List.mem_cons_of_mem _ hy)) (by omega)))
theorem encS_bad {L : List Te} {er : Int} (h : encS L = .inl er) (hL : L.length ≤ 300 ∧ datL L ≤ 16384) : er = 35 := by
  unfold encS at h
  split at h
  · rename_i hT
    have := byt_nds L (tree_tg hT) (by omega)
    rw [if_neg (by omega)] at h
    cases h
  · cases h; rfl
theorem encS_ok {L : List Te} {M : List Int} (h : encS L = .inr M) (hL : L.length ≤ 300 ∧ datL L ≤ 16384) (hU : ∀ x ∈ L, U8s x.d) : parseS M = .inr L ∧ U8s M ∧ M.length ≤ 16777216 := by
  unfold encS at h
  split at h
  · rename_i hT
    have hb := byt_nds L (tree_tg hT) (by omega)
    rw [if_neg (by omega)] at h
    cases h
    refine ⟨parse_laid hT (by omega), nds_u8 L (fun x hx => ?_) (by omega), by rw [bytesOf_len]; omega⟩
    obtain ⟨i, hi, rfl⟩ := List.mem_iff_getElem.1 hx
    exact ⟨(tree_at hT i hi).1, hU _ (List.getElem_mem _)⟩
  · cases h
end Go.Proofs.YtefebamomdcaaaaGreatDoor
/-
  Ber: a tree in which nothing is wrong can be settled (pure).
-/
namespace Go.Proofs.YtefebamomdcaaaaGreatDoor
open Go.RowKit
theorem row_fol : ∀ {r : List Te} {a : Te}, rowB a r = true → ∀ k, k < r.length → folB ((a :: r).getD k noTe) (r.getD k noTe) = true
  | [], _, _, k, hk => by simp at hk
  | x :: r, a, h, k, hk => by
    simp only [rowB, Bool.and_eq_true] at h
    cases k with
    | zero => exact h.1.2
    | succ k => exact row_fol h.2 k (by simpa using hk)
theorem tree_fol {L : List Te} (h : treeB L = true) (k : Nat) (hk : k + 1 < L.length) : folB (L.getD k noTe) (L.getD (k + 1) noTe) = true := by
  cases L with
  | nil => simp at hk
  | cons x r =>
    simp only [treeB, Bool.and_eq_true] at h
    exact row_fol h.2 k (by simpa using hk)
theorem getD_ix {L : List Te} {j : Nat} (h : j < L.length) : L.getD j noTe = L[j] := by
  rw [List.getD_eq_getElem?_getD, List.getElem?_eq_getElem h]; rfl
theorem tree_dp {L : List Te} (h : treeB L = true) {j : Nat} (hj : j < L.length) : 0 ≤ (L.getD j noTe).dp ∧ (L.getD j noTe).dp ≤ 63 := by
  obtain ⟨_, ⟨d, h1, h2⟩, _⟩ := tree_at h j hj
  rw [getD_ix hj]
  omega
theorem lt_inv (L : List Te) : ∀ i, i ≤ L.length → ∀ k, k < 64 → ∀ j, j < i → (L.getD j noTe).dp.toNat = k → (∀ j', j < j' → j' < i → (L.getD j' noTe).dp.toNat ≠ k) → (seatF L i).1.getD k 0 = j
  | 0, _, _, _, j, hj, _, _ => by omega
  | i + 1, hi, k, hk, j, hj, hd, hl => by
    have hlen := (SeatI.all L i (by omega)).lt
    show ((seatS L i (seatF L i).1 (seatF L i).2).1).getD k 0 = j
    unfold seatS
    simp only []
    rw [getD_set]
    by_cases hji : j = i
    · subst hji
      rw [if_pos ⟨hd, by rw [hlen]; omega⟩]
    · have := hl i (by omega) (by omega)
      rw [if_neg (fun h => this h.1)]
      exact lt_inv L i (by omega) k hk j (by omega) hd (fun j' h1 h2 => hl j' h1 (by omega))
theorem seat_other (L : List Te) (i : Nat) (LT : List Nat) (Q : List Sea) {j : Nat} (h : j ≠ i) : (seatS L i LT Q).2.getD j noSea = Q.getD j noSea := by
  unfold seatS
  simp only []
  split
  · rfl
  · split
    · rw [getD_set, if_neg (fun h' => h h'.1.symm)]
    · rfl
theorem seat_keep (L : List Te) (j : Nat) : ∀ i, j < i → (seatF L i).2.getD j noSea = (seatF L (j + 1)).2.getD j noSea
  | 0, h => by omega
  | i + 1, h => by
    by_cases hji : j = i
    · subst hji; rfl
    · show ((seatS L i (seatF L i).1 (seatF L i).2).2).getD j noSea = _
      rw [seat_other L i _ _ hji]
      exact seat_keep L j i (by omega)
theorem more_keep (L : List Te) (Q : List Sea) (j : Nat) : ∀ k, ((moreF L Q k).1.getD j noSea).1 = (Q.getD j noSea).1
  | 0 => rfl
  | k + 1 => by
    have ih := more_keep L Q j k
    unfold moreF
    simp only []
    split
    · rw [getD_set]
      split
      · rename_i h
        rw [← ih, ← h.1]
      · exact ih
    · exact ih
theorem seat_tag (L : List Te) {j a : Nat} (hj : j < L.length) (hd : (L.getD j noTe).dp.toNat ≠ 0) (ha : (seatF L j).1.getD ((L.getD j noTe).dp.toNat - 1) 0 = a) (hc : cstr (L.getD a noTe) = true) : ((seatsB L).getD j noSea).1 = (L.getD a noTe).tg := by
  unfold seatsB
  rw [more_keep, seat_keep L j L.length hj]
  show (((seatS L j (seatF L j).1 (seatF L j).2).2).getD j noSea).1 = _
  unfold seatS
  simp only []
  rw [if_neg hd, ha, if_pos hc, getD_set, if_pos ⟨rfl, by rw [(SeatI.all L j (by omega)).ql]; exact hj⟩]
theorem chk_none (L : List Te) (Q : List Sea) : ∀ f i, chkF L Q f i = none → ∀ j, i ≤ j → j < i + f → flB (L.getD j noTe) (Q.getD j noSea).1 (Q.getD j noSea).2.2 = 0
  | 0, i, _, j, h1, h2 => by omega
  | f + 1, i, h, j, h1, h2 => by
    unfold chkF at h
    by_cases h0 : flB (L.getD i noTe) (Q.getD i noSea).1 (Q.getD i noSea).2.2 = 0
    · rw [if_neg (fun h' => h' h0)] at h
      by_cases hij : j = i
      · subst hij; exact h0
      · exact chk_none L Q f (i + 1) h j (by omega) (by omega)
    · rw [if_pos h0] at h; cases h
/-- The last one that is not as deep, and what it is. -/
theorem last_up {L : List Te} (hT : treeB L = true) {i j : Nat} (hij : i < j) (hj : j < L.length) (hd : (L.getD i noTe).dp < (L.getD j noTe).dp) :
    ∃ a, i ≤ a ∧ a < j ∧ (L.getD a noTe).dp + 1 = (L.getD j noTe).dp ∧ (L.getD a noTe).co = true ∧ ∀ m, a < m → m < j → (L.getD j noTe).dp ≤ (L.getD m noTe).dp := by
  have find : ∀ f a, j - a = f → i ≤ a → a < j → (∀ m, a < m → m < j → (L.getD j noTe).dp ≤ (L.getD m noTe).dp) → ∃ a, i ≤ a ∧ a < j ∧ (L.getD a noTe).dp < (L.getD j noTe).dp ∧ ∀ m, a < m → m < j → (L.getD j noTe).dp ≤ (L.getD m noTe).dp := by
    have go : ∀ g a, a - i = g → i ≤ a → a < j → (∀ m, a < m → m < j → (L.getD j noTe).dp ≤ (L.getD m noTe).dp) → ∃ a, i ≤ a ∧ a < j ∧ (L.getD a noTe).dp < (L.getD j noTe).dp ∧ ∀ m, a < m → m < j → (L.getD j noTe).dp ≤ (L.getD m noTe).dp := by
      intro g
      induction g with
      | zero =>
        intro a hg h1 h2 h3
        obtain rfl : a = i := by omega
        exact ⟨a, h1, h2, hd, h3⟩
      | succ g ih =>
        intro a hg h1 h2 h3
        by_cases hlt : (L.getD a noTe).dp < (L.getD j noTe).dp
        · exact ⟨a, h1, h2, hlt, h3⟩
        · refine ih (a - 1) (by omega) (by omega) (by omega) fun m hm1 hm2 => ?_
          by_cases hma : m = a
          · subst hma; omega
          · exact h3 m (by omega) hm2
    intro f a _ h1 h2 h3
    exact go _ a rfl h1 h2 h3
  obtain ⟨a, h1, h2, h3, h4⟩ := find _ (j - 1) rfl (by omega) (by omega) (fun m hm1 hm2 => by omega)
  have hfol := tree_fol hT a (by omega)
  unfold folB at hfol
  simp only [decide_eq_true_eq] at hfol
  have hnext : (L.getD j noTe).dp ≤ (L.getD (a + 1) noTe).dp := by
    by_cases haj : a + 1 = j
    · rw [haj]; exact Int.le_refl _
    · exact h4 (a + 1) (by omega) (by omega)
  obtain ⟨_, _, hf⟩ := hfol
  rcases hf with hf | ⟨hco, hf⟩
  · omega
  · exact ⟨a, h1, h2, by omega, hco, h4⟩
theorem bit_ok {d : List Int} (h : bitF d = true) : 0 < d.length ∧ d.getD 0 0 ≤ 7 := by
  unfold bitF at h
  simp only [decide_eq_true_eq] at h
  omega
theorem chk_set {L : List Te} (hT : treeB L = true) (hC : chkB L = none) : SetP L := by
  have hfl : ∀ j, j < L.length → flB (L.getD j noTe) ((seatsB L).getD j noSea).1 ((seatsB L).getD j noSea).2.2 = 0 := fun j hj => chk_none L _ _ _ hC j (Nat.zero_le _) (by omega)
  have hprim : ∀ j, j < L.length → isB (L.getD j noTe) 3 = true → (L.getD j noTe).co = false → bitF (L.getD j noTe).d = true := by
    intro j hj hb hco
    have h := hfl j hj
    unfold isB at hb
    simp only [decide_eq_true_eq] at hb
    unfold flB at h
    split at h
    · cases h
    · rw [if_neg (by omega), hb.2, if_neg (by decide), if_neg (by rw [hco]; decide), hco, if_neg (by decide)] at h
      split at h
      · cases h
      · rename_i h'
        simp only [not_or, formB] at h'
        have := h'.1
        simpa using this
  have seg : ∀ i, i < L.length → cstr (L.getD i noTe) = true → (L.getD i noTe).tg = 3 → ∀ j, i < j → j < L.length → (∀ m, i < m → m ≤ j → (L.getD i noTe).dp < (L.getD m noTe).dp) → isB (L.getD j noTe) 3 = true := by
    intro i hi hcs htg j
    induction j using Nat.strongRecOn with
    | _ j ih =>
      intro hij hj hdp
      obtain ⟨a, h1, h2, h3, h4, h5⟩ := last_up hT hij hj (hdp j hij (Nat.le_refl _))
      have hpar : cstr (L.getD a noTe) = true ∧ (L.getD a noTe).tg = 3 := by
        by_cases hai : a = i
        · subst hai; exact ⟨hcs, htg⟩
        · have hb := ih a h2 (by omega) (by omega) (fun m hm1 hm2 => hdp m hm1 (by omega))
          unfold isB at hb
          simp only [decide_eq_true_eq] at hb
          refine ⟨?_, hb.2⟩
          unfold cstr
          rw [hb.2, hb.1, h4]
          decide
      have d1 := tree_dp hT (show a < L.length by omega)
      have d2 := tree_dp hT hj
      have hlast : (seatF L j).1.getD ((L.getD j noTe).dp.toNat - 1) 0 = a := by
        refine lt_inv L j (by omega) _ (by omega) a h2 (by omega) fun m hm1 hm2 => ?_
        have := h5 m hm1 hm2
        omega
      have htag := seat_tag L hj (by omega) hlast hpar.1
      rw [hpar.2] at htag
      have h := hfl j hj
      rw [htag] at h
      unfold flB at h
      by_cases hb : isB (L.getD j noTe) 3 = true
      · exact hb
      · have hb' : isB (L.getD j noTe) (sgT 3) = false := by rw [show sgT 3 = 3 from rfl]; cases hx : isB (L.getD j noTe) 3 with | true => exact absurd hx hb | false => rfl
        rw [if_pos ⟨by decide, hb'⟩] at h
        cases h
  intro i x hx
  have hi : i < L.length := (List.getElem?_eq_some_iff.1 hx).1
  have hxd : L.getD i noTe = x := by rw [List.getD_eq_getElem?_getD, hx]; rfl
  refine ⟨fun hc ht3 y hy hco => ?_, fun hc => ⟨fun h1 => ?_, fun h3 => ?_⟩⟩
  · obtain ⟨t, ht, hty⟩ := List.mem_iff_getElem.1 hy
    have hpre : ∀ m, m ≤ t → ∃ h : i + 1 + m < L.length, x.dp < (L[i + 1 + m]).dp := by
      intro m hm
      have hm2 : m < (dpr x.dp (L.drop (i + 1))).length := by omega
      have hmem := List.getElem_mem hm2
      have hle := (List.takeWhile_prefix (l := L.drop (i + 1)) fun y => decide (x.dp < y.dp)).length_le
      have hlt : m < (L.drop (i + 1)).length := Nat.lt_of_lt_of_le hm2 hle
      have heq : (dpr x.dp (L.drop (i + 1)))[m] = (L.drop (i + 1))[m] := (List.takeWhile_prefix (l := L.drop (i + 1)) fun y => decide (x.dp < y.dp)).getElem hm2
      have hp := List.all_takeWhile (l := L.drop (i + 1)) (p := fun y => decide (x.dp < y.dp))
      rw [List.all_eq_true] at hp
      have h1 := hp _ hmem
      simp only [decide_eq_true_eq] at h1
      rw [heq, List.getElem_drop] at h1
      rw [List.length_drop] at hlt
      exact ⟨by omega, h1⟩
    obtain ⟨hjl, _⟩ := hpre t (Nat.le_refl _)
    have hyv : L.getD (i + 1 + t) noTe = y := by
      have heq : (dpr x.dp (L.drop (i + 1)))[t] = (L.drop (i + 1))[t]'(by rw [List.length_drop]; omega) := (List.takeWhile_prefix (l := L.drop (i + 1)) fun y => decide (x.dp < y.dp)).getElem ht
      rw [getD_ix hjl, ← hty, heq, List.getElem_drop]
    have hb := seg i hi (by rw [hxd]; exact hc) (by rw [hxd]; exact ht3) (i + 1 + t) (by omega) hjl (fun m hm1 hm2 => by
      obtain ⟨h1, h2⟩ := hpre (m - (i + 1)) (by omega)
      have hm : i + 1 + (m - (i + 1)) = m := by omega
      rw [hxd]
      rw [show L.getD m noTe = L.getD (i + 1 + (m - (i + 1))) noTe by rw [hm], getD_ix h1]
      exact h2)
    have hbf := hprim (i + 1 + t) hjl hb (by rw [hyv]; exact hco)
    rw [hyv] at hbf
    exact bit_ok hbf
  · have h := hfl i hi
    rw [hxd] at h
    unfold isB at h1
    simp only [decide_eq_true_eq] at h1
    unfold flB at h
    split at h
    · cases h
    · rw [if_neg (by omega), h1.2, if_neg (by decide)] at h
      cases hco : x.co with
      | true => rw [hco, if_pos (.inr ⟨by decide, rfl⟩)] at h; cases h
      | false =>
        rw [hco, if_neg (by decide), if_neg (by decide)] at h
        split at h
        · cases h
        · rename_i h'
          simp only [not_or, formB] at h'
          have := h'.1
          simp at this
          omega
  · have hb3 := h3
    unfold isB at h3
    simp only [decide_eq_true_eq] at h3
    cases hco : x.co with
    | true =>
      unfold cstr at hc
      rw [h3.1, h3.2, hco] at hc
      exact absurd hc (by decide)
    | false =>
      have hbf := hprim i hi (by rw [hxd]; exact hb3) (by rw [hxd]; exact hco)
      rw [hxd] at hbf
      exact bit_ok hbf
end Go.Proofs.YtefebamomdcaaaaGreatDoor
/-
  Ber: memory of which only some blocks have turned; what may be spoilt. (wip/mkb76.py)
-/
namespace Go.Proofs.YtefebamomdcaaaaGreatDoor
open Go.RowKit
theorem run_apL {P : Program} (w : World) (t tx ty e : TypeId) (i : TypeInfo) (k : IntKind) (ht : P.underlying t = some (.slice e)) (hi : P.info? e = some i) (hz : i.zero = some (.int k 0)) (hsize : i.size = 1) (hby : 0 < i.bytes)
    {B : Nat} {v : Value} {xs : List Int} (hr : Row k e B w v xs) {x : Value} {ys : List Int} (hs : Src P 1 tx x ys.length (ys.map (Value.int k)) w)
    (hb : (xs.length + ys.length) * i.bytes ≤ 140737488355328) (hB : B ≤ w.heap.size) :
    ∃ v' w', (Builtin.append_ #[t, tx] ty #[v, x]).run P w = .ok v' w' ∧ Row k e B w' v' (xs ++ ys) ∧ Grew k e w w' v ys ∧ (blkOf v' = blkOf v ∨ blkOf v' = some w.heap.size) := by
  have hle : xs.length + ys.length ≤ 140737488355328 := Nat.le_trans (Nat.le_mul_of_pos_right _ hby) hb
  have hs1 : Src P i.size tx x ys.length (ys.map (Value.int k)) w := by rw [hsize]; exact hs
  have grown : ∀ (base : Option Addr) (old : Nat), old < xs.length + ys.length → (Builtin.firstCells i.size xs.length (.slice base xs.length old)).run P w.drew = .ok (xs.map (Value.int k)).toArray w.drew →
      ∃ v' w', (Builtin.append_ #[t, tx] ty #[.slice base xs.length old, x]).run P w = .ok v' w' ∧ Row k e B w' v' (xs ++ ys) ∧ Grew k e w w' (.slice base xs.length old) ys ∧ (blkOf v' = blkOf (.slice base xs.length old) ∨ blkOf v' = some w.heap.size) := by
    intro base old ho hold
    have h1 := run_append_grow_src (P := P) w t tx ty e i (.int k 0) ht hi hz base xs.length old _ hold x ys.length _ hs1 ho (by omega) (growslice_fits (by omega) hb)
    refine ⟨_, _, h1, ?_, .inl ((Below.refl _ _).drew.alloc (Nat.le_refl _) _), .inr rfl⟩
    have hge := grownCap_ge w (xs.length + ys.length) old e
    have hcm : grownCap w (xs.length + ys.length) old e ≤ maxLen := grownCap_le_maxLen w _ old e (by unfold maxLen; omega)
    obtain ⟨C, hC⟩ : ∃ C, grownCap w (xs.length + ys.length) old e = xs.length + ys.length + C := ⟨_, (Nat.add_sub_of_le hge).symm⟩
    rw [hC] at hcm ⊢
    have hzc : Builtin.zeroCells (Value.cells (.int k 0)) C = (List.replicate C (.int k 0)).toArray := by
      apply Array.ext'
      simp only [Builtin.zeroCells, Value.cells]
      simp
      rw [List.eq_replicate_iff]
      exact ⟨by simp, fun y hy => by obtain ⟨j, _, rfl⟩ := List.mem_map.1 hy; simp [Nat.mod_one]⟩
    refine .inr ⟨w.heap.size, xs ++ ys ++ List.replicate C 0, ?_, hB, ?_, by simp, List.take_left, by simp; omega⟩
    · simp; omega
    · unfold Arr
      rw [show xs.length + ys.length + C - (xs.length + ys.length) = C by omega, hzc]
      have := heap_alloc_new w.drew (.cells ((xs.map (Value.int k) ++ ys.map (Value.int k)).toArray ++ (List.replicate C (Value.int k 0)).toArray) e)
      simp only [List.map_append, List.map_replicate]
      rw [show (w.drew.heap.size) = w.heap.size from rfl] at this
      rw [this]; simp
  rcases hr with ⟨rfl, rfl⟩ | ⟨b, S, rfl, hBb, hA, hl, htk, hm⟩
  · by_cases h0 : ys.length = 0
    · have hy : ys = [] := List.eq_nil_of_length_eq_zero h0
      subst hy
      refine ⟨.slice none 0 0, w, ?_, .inl ⟨rfl, rfl⟩, .inl (Below.refl _ _), .inl rfl⟩
      have h1 := hs1.cells
      have h2 := hs1.len
      simp only [List.length_nil, List.map_nil] at h1 h2
      rcases hs1.kind with ⟨e', hk⟩ | hk
      · simp [Builtin.append_, run_underlying ht, run_underlying hk, sizeOf, typeInfo, hi, h2, h1]
      · simp [Builtin.append_, run_underlying ht, run_underlying hk, sizeOf, typeInfo, hi, h2, h1]
    · exact grown none 0 (by simp; omega) (run_firstCells_none w.drew i.size 0 0 0)
  · by_cases hroom : xs.length + ys.length ≤ S.length
    · have hst := run_storeCells_at P b (xs.length * i.size) e (ys.map (Value.int k)) 0 _ w hA (by simp [hsize]; omega) hs1.one
      simp only [Nat.add_zero] at hst
      have hrun : (Builtin.append_ #[t, tx] ty #[.slice (some ⟨b, 0, none⟩) xs.length S.length, x]).run P w = .ok (.slice (some ⟨b, 0, none⟩) (xs.length + ys.length) S.length) (w.setRow b (((S.map (Value.int k)).toArray.toList.take (xs.length * i.size)) ++ ys.map (Value.int k) ++ ((S.map (Value.int k)).toArray.toList.drop (xs.length * i.size + (ys.map (Value.int k)).length))).toArray) := by
        rcases hs1.kind with ⟨e', hk⟩ | hk <;> simp [Builtin.append_, run_underlying ht, run_underlying hk, sizeOf, typeInfo, hi, hs1.len, hroom, hs1.cells, Addr.add_lit, hst]
      have hA' : Arr k e (w.setRow b (((S.map (Value.int k)).toArray.toList.take (xs.length * i.size)) ++ ys.map (Value.int k) ++ ((S.map (Value.int k)).toArray.toList.drop (xs.length * i.size + (ys.map (Value.int k)).length))).toArray) b (S.take xs.length ++ ys ++ S.drop (xs.length + ys.length)) := by
        unfold Arr
        rw [setRow_heap w b _ _ e _ hA]
        simp [hsize, List.map_take, List.map_drop]
      have hlen : (S.take xs.length ++ ys ++ S.drop (xs.length + ys.length)).length = S.length := by simp; omega
      refine ⟨_, _, hrun, .inr ⟨b, _, ?_, hBb, hA', ?_, ?_, ?_⟩, .inr ⟨b, xs.length, S, rfl, hA, ⟨rfl, rfl, rfl, by simp [World.setRow], fun j _ hj => setRow_other w b j _ (fun e => hj (by simp [e]))⟩, hroom, hA'⟩, .inl rfl⟩
      · rw [hlen]; simp
      · rw [hlen]; simp; omega
      · rw [htk]; exact List.take_left
      · rw [hlen]; exact hm
    · refine grown (some ⟨b, 0, none⟩) S.length (by omega) (run_firstCells_some w.drew i.size xs.length ⟨b, 0, none⟩ xs.length S.length _ (by simp [hsize]) (fun j u hj => ?_))
      have hj' : j < xs.length := by have := (List.getElem?_eq_some_iff.1 hj).1; simpa using this
      have hadd : (⟨b, 0, none⟩ : Addr).add j = ⟨b, j, none⟩ := by simp [Addr.add]; try omega
      have := hA.cell j (by omega)
      rw [hadd]
      have e1 : (w.drew).cell? ⟨b, j, none⟩ = w.cell? ⟨b, j, none⟩ := rfl
      rw [e1, this, ← hj]
      have e2 : S.getD j 0 = xs.getD j 0 := by
        have : (S.take xs.length).getD j 0 = S.getD j 0 := by simp [List.getD, hj']
        rw [← this, htk]
      rw [e2]; simp [hj']

theorem wpList_apL {P : Program} {w : World} {ops : Array Oper} {rest : List Oper} {o : Oper} {a : Act} {Q : Exit → Act → World → Prop} (hgd : o.guard = none) (s x : Operand) (t tx : TypeId)
    (ho : o.op = .call { callee := .builtin .append, args := #[s, x], argTypes := #[t, tx] }) (k : IntKind) (e : TypeId) (bytes : Nat) (ht : P.underlying t = some (.slice e))
    (hi : (P.info? e).map (fun i => (i.zero, i.size, i.bytes)) = some (some (.int k 0), 1, bytes)) (hby : 0 < bytes)
    (B : Nat) (v : Value) (xs : List Int) (hs : a.eval s = v) (hr : Row k e B w v xs) (u : Value) (ys : List Int) (hx : a.eval x = u) (hy : Src P 1 tx u ys.length (ys.map (Value.int k)) w)
    (hb : (xs.length + ys.length) * bytes ≤ 140737488355328) (hB : B ≤ w.heap.size)
    (h : ∀ v' w', Row k e B w' v' (xs ++ ys) → Grew k e w w' v ys → (blkOf v' = blkOf v ∨ blkOf v' = some w.heap.size) → wpList P ops Q rest (a.put o.dst v') w') : wpList P ops Q (o :: rest) a w := by
  obtain ⟨i0, hi0, hz0, hz1, hz2⟩ := info_parts hi
  refine wpList_plain hgd fun K hK => ?_
  obtain ⟨v', w', hrun, h2, h3, h4⟩ := run_apL (P := P) w t tx o.type e i0 k ht hi0 hz0 hz1 (by omega) hr hy (by rw [hz2]; exact hb) hB
  unfold Oper.wp execOp
  simp only [ho, resolve, invoke, builtin, Sem.run_bind, Sem.run_pure, Result.andThen_ok, List.map_toArray, List.map_cons, List.map_nil, hs, hx, hrun]
  exact hK _ _ (h v' w' h2 h3 h4)
/-- Only blocks that meet D have turned; new ones may have come. -/
structure Onl (D : Nat → Prop) (w w' : World) : Prop where
  os : w'.os = w.os
  tape : w'.tape = w.tape
  output : w'.output = w.output
  size : w.heap.size ≤ w'.heap.size
  block : ∀ j, j < w.heap.size → ¬ D j → w'.heap[j]? = w.heap[j]?
theorem Onl.refl (D : Nat → Prop) (w : World) : Onl D w w := ⟨rfl, rfl, rfl, Nat.le_refl _, fun _ _ _ => rfl⟩
theorem Onl.trans {D : Nat → Prop} {w w' w'' : World} (h : Onl D w w') (h' : Onl D w' w'') : Onl D w w'' :=
  ⟨h'.os.trans h.os, h'.tape.trans h.tape, h'.output.trans h.output, Nat.le_trans h.size h'.size, fun j hj hd => (h'.block j (Nat.lt_of_lt_of_le hj h.size) hd).trans (h.block j hj hd)⟩
theorem Onl.ofBelow {D : Nat → Prop} {w w' : World} (h : Below w.heap.size w w') : Onl D w w' := ⟨h.os, h.tape, h.output, h.size, fun j hj _ => h.block j hj⟩
theorem Onl.ofUpd {D : Nat → Prop} {w w' : World} {b : Nat} (h : Upd w w' b) (hb : D b ∨ w.heap.size ≤ b) : Onl D w w' :=
  ⟨h.os, h.tape, h.output, h.size, fun j hj hd => h.block j hj (fun e => by
    simp only [Option.some.injEq] at e
    subst e
    rcases hb with hb | hb
    · exact hd hb
    · omega)⟩
/-- From an elder world: a block that is newer than it may turn. -/
theorem Onl.upd {D : Nat → Prop} {w w1 w' : World} {b : Nat} (h0 : Onl D w w1) (h : Upd w1 w' b) (hb : D b ∨ w.heap.size ≤ b) : Onl D w w' :=
  ⟨h.os.trans h0.os, h.tape.trans h0.tape, h.output.trans h0.output, Nat.le_trans h0.size h.size, fun j hj hd => (h.block j (Nat.lt_of_lt_of_le hj h0.size) (fun e => by
    simp only [Option.some.injEq] at e
    subst e
    rcases hb with hb | hb
    · exact hd hb
    · omega)).trans (h0.block j hj hd)⟩
theorem Onl.below {D : Nat → Prop} {B : Nat} {w0 w w' : World} (h : Onl D w w') (hb : Below B w0 w) (hB : B ≤ w.heap.size) (hD : ∀ j, D j → B ≤ j) : Below B w0 w' :=
  hb.trans ⟨h.os, h.tape, h.output, h.size, fun j hj => h.block j (Nat.lt_of_lt_of_le hj hB) (fun d => by have := hD j d; omega)⟩
theorem Onl.arr {D : Nat → Prop} {k : IntKind} {e : TypeId} {w w' : World} {b : Nat} {xs : List Int} (h : Onl D w w') (ha : Arr k e w b xs) (hb : ¬ D b) : Arr k e w' b xs := by
  unfold Arr; rw [h.block b ha.lt hb]; exact ha
theorem Onl.blk {D : Nat → Prop} {T : TypeId} {w w' : World} {b : Nat} {cs : List Value} (h : Onl D w w') (ha : Blk T w b cs) (hb : ¬ D b) : Blk T w' b cs := by
  unfold Blk; rw [h.block b ha.lt hb]; exact ha
theorem Onl.row {D : Nat → Prop} {k : IntKind} {e : TypeId} {B : Nat} {w w' : World} {v : Value} {xs : List Int} (h : Onl D w w') (hr : Row k e B w v xs) (hb : ∀ b, blkOf v = some b → ¬ D b) : Row k e B w' v xs := by
  rcases hr with hr | ⟨b, S, rfl, h1, hA, h2⟩
  · exact .inl hr
  · exact .inr ⟨b, S, rfl, h1, h.arr hA (hb b rfl), h2⟩
theorem Onl.mrow {D : Nat → Prop} {m : Nat} {e : TypeId} {B : Nat} {w w' : World} {v : Value} {n : Nat} {xs : List Value} (h : Onl D w w') (hr : MRow m e B w v n xs) (hb : ∀ b S, Blk e w b S → blkOf v = some b → ¬ D b) : MRow m e B w' v n xs := by
  obtain ⟨h0, hr⟩ := hr
  refine ⟨h0, ?_⟩
  rcases hr with hr | ⟨b, S, c, rfl, h1, hA, h2⟩
  · exact .inl hr
  · exact .inr ⟨b, S, c, rfl, h1, h.blk hA (hb b S hA rfl), h2⟩
theorem Row.not_el {B : Nat} {w : World} {v : Value} {xs : List Int} (h : Row .u8 5 B w v xs) {b : Nat} {S : List Value} (hS : Blk 59 w b S) (hb : blkOf v = some b) : False := by
  rcases h with ⟨rfl, _⟩ | ⟨b', S', rfl, _, hA, _⟩
  · simp [blkOf] at hb
  · simp only [blkOf, Option.some.injEq] at hb
    subst hb
    unfold Arr at hA
    unfold Blk at hS
    rw [hA] at hS
    simp at hS
/-- A slice that may be spoilt: nil, or the head of a block of its own. -/
def Own8 (w : World) (v : Value) : Prop := (∃ a c, v = .slice a 0 c) ∨ ∃ b n c S, v = .slice (some ⟨b, 0, none⟩) n c ∧ Arr .u8 5 w b S ∧ n ≤ S.length ∧ n ≤ 1152921504606846976
theorem Row.own8 {B : Nat} {w : World} {v : Value} {xs : List Int} (h : Row .u8 5 B w v xs) (hl : xs.length ≤ 1152921504606846976) : Own8 w v := by
  rcases h with ⟨rfl, _⟩ | ⟨b, S, rfl, _, hA, hle, _⟩
  · exact .inl ⟨_, _, rfl⟩
  · exact .inr ⟨b, _, _, S, rfl, hA, by omega, hl⟩
/-- A slice of the call's own that has turned: its block is still there. -/
def Had (w : World) (v : Value) : Prop := v = .slice none 0 0 ∨ ∃ b n c S, v = .slice (some ⟨b, 0, none⟩) n c ∧ Arr .u8 5 w b S ∧ n ≤ S.length
theorem Row.had {B : Nat} {w : World} {v : Value} {xs : List Int} (h : Row .u8 5 B w v xs) : Had w v := by
  rcases h with ⟨rfl, _⟩ | ⟨b, S, rfl, _, hA, hle, _⟩
  · exact .inl rfl
  · exact .inr ⟨b, _, _, S, rfl, hA, by omega⟩
theorem Had.own {w : World} {a : Option Addr} {n c : Nat} (h : Had w (.slice a n c)) (hn : n ≤ 1152921504606846976) : Own8 w (.slice a n c) := by
  rcases h with h | ⟨b, n', c', S, h, hA, hle⟩
  · simp only [Value.slice.injEq] at h
    obtain ⟨rfl, rfl, rfl⟩ := h
    exact .inl ⟨_, _, rfl⟩
  · simp only [Value.slice.injEq] at h
    obtain ⟨rfl, rfl, rfl⟩ := h
    exact .inr ⟨b, _, _, S, rfl, hA, hle, hn⟩
theorem Had.turn {w w' : World} {v : Value} (h : Had w v) (ht : ∀ b S, Arr .u8 5 w b S → ∃ S', Arr .u8 5 w' b S' ∧ S'.length = S.length) : Had w' v := by
  rcases h with h | ⟨b, n, c, S, rfl, hA, hle⟩
  · exact .inl h
  · obtain ⟨S', hA', hl⟩ := ht b S hA
    exact .inr ⟨b, n, c, S', rfl, hA', by omega⟩
theorem Had.below {w w' : World} {v : Value} (h : Had w v) (hb : Below w.heap.size w w') : Had w' v := h.turn fun _ S hA => ⟨S, below_arr hb hA.lt hA, rfl⟩
theorem Grew.had {w w' : World} {v u : Value} {ys : List Int} (hg : Grew .u8 5 w w' v ys) (h : Had w u) : Had w' u := by
  rcases hg with hg | ⟨b, n, S, rfl, hA, hU, hle, hA'⟩
  · exact h.below hg
  · refine h.turn fun b2 S2 hA2 => ?_
    by_cases h2 : b2 = b
    · subst h2
      refine ⟨_, hA', ?_⟩
      unfold Arr at hA hA2
      rw [hA] at hA2
      simp only [Option.some.injEq, Obj.cells.injEq] at hA2
      have := congrArg Array.size hA2.1
      simp at this
      simp; omega
    · exact ⟨S2, hU.arr hA2 h2, rfl⟩
theorem Grew.onl {w w' : World} {v : Value} {ys : List Int} (hg : Grew .u8 5 w w' v ys) : Onl (fun j => blkOf v = some j) w w' := by
  rcases hg with hg | ⟨b, n, S, rfl, hA, hU, hle, hA'⟩
  · exact Onl.ofBelow hg
  · exact Onl.ofUpd hU (.inl rfl)
theorem Onl.comb {D : Nat → Prop} {w w1 w2 : World} (h : Onl D w w1) (h' : Onl (fun j => D j ∨ w.heap.size ≤ j) w1 w2) : Onl D w w2 :=
  ⟨h'.os.trans h.os, h'.tape.trans h.tape, h'.output.trans h.output, Nat.le_trans h.size h'.size, fun j hj hd => (h'.block j (Nat.lt_of_lt_of_le hj h.size) (fun e => by
    rcases e with e | e
    · exact hd e
    · omega)).trans (h.block j hj hd)⟩
theorem Onl.wide {D D' : Nat → Prop} {w w' : World} (h : Onl D w w') (hD : ∀ j, D j → D' j) : Onl D' w w' :=
  ⟨h.os, h.tape, h.output, h.size, fun j hj hd => h.block j hj (fun e => hd (hD j e))⟩
theorem elCells_get (Y : List Tv) (i q : Nat) (hq : q < 5) : (elCells Y)[i * 5 + q]? = (Y[i]?).bind fun y => (cellE y)[q]? := by
  by_cases hi : i < Y.length
  · rw [elCells_at hi q hq, List.getElem?_eq_getElem hi]; rfl
  · have hl : (elCells Y).length = Y.length * 5 := elCells_len Y
    rw [List.getElem?_eq_none (by omega), List.getElem?_eq_none (by omega)]; rfl
/-- The elements of v from place i on are rows of the call's own, the others may have turned. -/
structure ElF (B : Nat) (w : World) (v : Value) (Y : List Tv) (i : Nat) : Prop where
  mrow : MRow 5 59 B w v Y.length (elCells Y)
  rows : ∀ j y, i ≤ j → Y[j]? = some y → Row .u8 5 B w y.2 y.1.d
theorem ElF.below {B : Nat} {w w' : World} {v : Value} {Y : List Tv} {i : Nat} (h : ElF B w v Y i) (hb : Below w.heap.size w w') : ElF B w' v Y i :=
  ⟨h.mrow.below hb, fun j y hj hy => (h.rows j y hj hy).below hb⟩
theorem ElF.next {B : Nat} {w : World} {v : Value} {Y : List Tv} {i : Nat} (h : ElF B w v Y i) : ElF B w v Y (i + 1) :=
  ⟨h.mrow, fun j y hj hy => h.rows j y (by omega) hy⟩
/-- The elements from place i on, read by the slice's rest. -/
theorem ElF.drop {B : Nat} {w : World} {Y : List Tv} {i k c : Nat} {a a' : Option Addr} (h : ElF B w (.slice a k c) Y i) (hk : Y.length = k) (hi : i ≤ k) (ha : (if c = i then a else a.map (·.add (i * 5))) = a') :
    ElS w (.slice a' (k - i) (c - i)) ((Y.drop i).map (·.1)) := by
  have hl : ((Y.drop i).map (·.1)).length = k - i := by rw [List.length_map, List.length_drop, hk]
  obtain ⟨h0, hm⟩ := h.mrow
  have hrows : ∀ y ∈ Y.drop i, Sl .u8 w y.2 y.1.d := by
    intro y hy
    obtain ⟨j, hj, rfl⟩ := List.mem_iff_getElem.1 hy
    exact (h.rows (i + j) (Y.drop i)[j] (by omega) (by rw [List.getElem_drop]; exact List.getElem?_eq_getElem _)).sl
  rcases hm with ⟨hv, hz⟩ | ⟨b, S, c', hv, hB, hA, hS, hc, ht, _⟩
  · simp only [Value.slice.injEq] at hv
    have hki : k - i = 0 := by omega
    exact ⟨a', c - i, Y.drop i, by rw [hl], by omega, rfl, .inl (List.eq_nil_of_length_eq_zero (by omega)), hrows⟩
  · simp only [Value.slice.injEq] at hv
    obtain ⟨rfl, hv2, rfl⟩ := hv
    refine ⟨a', c - i, Y.drop i, by rw [hl], by omega, rfl, ?_, hrows⟩
    by_cases hci : c = i
    · exact .inl (List.eq_nil_of_length_eq_zero (by omega))
    · rw [if_neg hci] at ha
      refine .inr ⟨b, i * 5, ?_, hA.lt, fun q hq => ?_⟩
      · rw [← ha]; simp [Addr.add]; intro h; omega
      · rw [hl] at hq
        rw [hA.cell (i * 5 + q)]
        have e1 : S[i * 5 + q]? = (elCells Y)[i * 5 + q]? := by rw [← ht, List.getElem?_take, if_pos (by omega)]
        rw [e1]
        have e2 : elCells Y = elCells (Y.take i) ++ elCells (Y.drop i) := by unfold elCells; rw [← List.flatMap_append, List.take_append_drop]
        have e3 : (elCells (Y.take i)).length = i * 5 := by rw [elCells_len, List.length_take]; congr 1; omega
        rw [e2, List.getElem?_append_right (by omega), e3]
        congr 1; omega
theorem MRow.cellQ {B : Nat} {w : World} {Y : List Tv} {i k c : Nat} {a : Option Addr} (h : MRow 5 59 B w (.slice a k c) Y.length (elCells Y)) (hi : i < k) (hk : Y.length = k) {y : Tv} (hy : Y[i]? = some y) : ∃ b, a = some ⟨b, 0, none⟩ ∧ k ≤ c ∧ b < w.heap.size ∧ ∀ q u, q < 5 → (cellE y)[q]? = some u → w.cell? ⟨b, i * 5 + q, none⟩ = some u := by
  obtain ⟨b, c', hv, hc, _, hlt, hcell⟩ := h.at (by omega)
  simp only [Value.slice.injEq] at hv
  obtain ⟨rfl, hk', rfl⟩ := hv
  refine ⟨b, rfl, by omega, hlt, fun q u hq hu => ?_⟩
  rw [hcell (i * 5 + q) (by omega), elCells_get Y i q hq, hy, Option.bind_some, hu]
/-- What turns only the block of one element's row leaves the others. -/
theorem ElF.onl {B : Nat} {w w' : World} {v u : Value} {xs : List Int} {Y : List Tv} {i : Nat} (h : ElF B w v Y i) (ho : Onl (fun j => blkOf u = some j) w w') (hu : Row .u8 5 B w u xs)
    (hap : ∀ j y, i ≤ j → Y[j]? = some y → ∀ b, blkOf u = some b → blkOf y.2 ≠ some b) : ElF B w' v Y i :=
  ⟨ho.mrow h.mrow (fun _ _ hS _ hd => hu.not_el hS hd), fun j y hj hy => ho.row (h.rows j y hj hy) (fun b hb hd => (hap j y hj hy b hd) hb)⟩
theorem ElF.onlB {D : Nat → Prop} {B : Nat} {w w' : World} {v : Value} {Y : List Tv} {i : Nat} (h : ElF B w v Y i) (ho : Onl D w w') (hD : ∀ j, D j → j < B) : ElF B w' v Y i := by
  refine ⟨ho.mrow h.mrow (fun b S hS hb hd => ?_), fun j y hj hy => ho.row (h.rows j y hj hy) (fun b hb hd => ?_)⟩
  · have := hD b hd
    obtain ⟨_, h2⟩ := h.mrow
    rcases h2 with ⟨rfl, _⟩ | ⟨b', S', c', rfl, hB, _⟩
    · simp [blkOf] at hb
    · simp only [blkOf, Option.some.injEq] at hb; omega
  · have := hD b hd; have := ((h.rows j y hj hy).blk_lt hb).1; omega
theorem Onl.elems {D : Nat → Prop} {B : Nat} {w w' : World} {v : Value} {L : List Te} (h : Onl D w w') (ht : Elems B w v L) (hD : ∀ j, D j → j < B) : Elems B w' v L := by
  obtain ⟨Y, h1, h2, h3, h4⟩ := ht
  have hF : ElF B w v Y 0 := ⟨h2, fun j y _ hy => h3 y (List.mem_of_getElem? hy)⟩
  have hF' := hF.onlB h hD
  refine ⟨Y, h1, hF'.mrow, fun y hy => ?_, h4⟩
  obtain ⟨j, hj, rfl⟩ := List.mem_iff_getElem.1 hy
  exact hF'.rows j _ (Nat.zero_le _) (List.getElem?_eq_getElem hj)
theorem ElF.s {B : Nat} {w : World} {v : Value} {Y : List Tv} (h : ElF B w v Y 0) (hap : Apart (Y.map (·.2))) : ElS w v (Y.map (·.1)) :=
  Elems.s (B := B) ⟨Y, rfl, h.mrow, fun y hy => by
    obtain ⟨j, hj, rfl⟩ := List.mem_iff_getElem.1 hy
    exact h.rows j _ (Nat.zero_le _) (List.getElem?_eq_getElem hj), hap⟩
theorem Elems.f {B : Nat} {w : World} {v : Value} {L : List Te} (h : Elems B w v L) (i : Nat) : ∃ Y, Y.map (·.1) = L ∧ ElF B w v Y i := by
  obtain ⟨Y, h1, h2, h3, _⟩ := h
  exact ⟨Y, h1, h2, fun j y _ hy => h3 y (List.mem_of_getElem? hy)⟩
theorem apart_at : ∀ (Y : List Tv), Apart (Y.map (·.2)) → ∀ (i : Nat) (y : Tv), Y[i]? = some y → ∀ (j : Nat) (z : Tv), i < j → Y[j]? = some z → ∀ b, blkOf y.2 = some b → blkOf z.2 ≠ some b
  | [], _, i, y, hy => by simp at hy
  | x :: Y, hap, 0, y, hy => by
    simp only [List.getElem?_cons_zero, Option.some.injEq] at hy
    subst hy
    unfold Apart at hap
    simp only [List.map_cons, List.pairwise_cons] at hap
    intro j z hj hz b hb
    obtain ⟨j', rfl⟩ : ∃ j', j = j' + 1 := ⟨j - 1, by omega⟩
    rw [List.getElem?_cons_succ] at hz
    exact hap.1 _ (List.mem_map.2 ⟨z, List.mem_of_getElem? hz, rfl⟩) b hb
  | x :: Y, hap, i + 1, y, hy => by
    rw [List.getElem?_cons_succ] at hy
    have hap' : Apart (Y.map (·.2)) := by
      unfold Apart at hap ⊢
      simp only [List.map_cons, List.pairwise_cons] at hap
      exact hap.2
    have h1 := apart_at Y hap' i y hy
    intro j z hj hz b
    obtain ⟨j', rfl⟩ : ∃ j', j = j' + 1 := ⟨j - 1, by omega⟩
    rw [List.getElem?_cons_succ] at hz
    exact h1 j' z (by omega) hz b
theorem addr5 (c i b : Nat) : (if c = i then (some ⟨b, 0, none⟩ : Option Addr) else (some (⟨b, 0, none⟩ : Addr)).map (·.add (i * 5))) = if c = i then some ⟨b, 0, none⟩ else some ⟨b, i * 5, none⟩ := by
  by_cases h : c = i
  · rw [if_pos h, if_pos h]
  · rw [if_neg h, if_neg h]
    by_cases h0 : i * 5 = 0
    · rw [h0]; simp [Addr.add]
    · simp [Addr.add]; omega
end Go.Proofs.YtefebamomdcaaaaGreatDoor
/-
  Ber: the reference's Copy walked.
-/
namespace Go.Proofs.YtefebamomdcaaaaGreatDoor
open Go.RowKit
set_option maxRecDepth 20000 in
set_option maxHeartbeats 8000000 in
theorem Copy_any {w : World} (v : Value) (L : List Te) (hv : ElS w v L) (hn : L.length ≤ 65536) (hD : datL L ≤ 1099511627776) :
    Calls Tryz.prog 17 #[v] w fun e w' => (∃ r, e = .returned r ∧ Elems w.heap.size w' r L) ∧ Below w.heap.size w w' := by
  obtain ⟨n, hnn⟩ : ∃ n, L.length = n := ⟨_, rfl⟩
  have HX : Hid (ElS w v L ∧ L.length = n ∧ ∀ x ∈ L, x.d.length ≤ 1099511627776) := ⟨hv, hnn, fun x hx => by have := datL_mem hx; omega⟩
  obtain ⟨a, c, rfl⟩ : ∃ a c, v = .slice a n c := by obtain ⟨a, c, Y, h, _⟩ := hv; exact ⟨a, c, by rw [h, hnn]⟩
  have hnM : n ≤ 65536 := by omega
  clear hv hnn hn hD
  go_enter Tryz.func17, Tryz.ntmps17
  go_wp2_with fail
  go_loopw [3, 4] (fun ov iv wr => ∃ (i : Nat) (o0 : Value), o0 = ov ∧ iv = .int .i64 i ∧ i ≤ n ∧ Elems w.heap.size wr o0 (L.take i) ∧ Below w.heap.size w wr) (fun _ iv _ => n - (intOf iv).toNat)
  case atStart => exact ⟨0, _, rfl, rfl, Nat.zero_le _, Elems.nil _ _, Below.refl _ _⟩
  case round =>
    obtain ⟨i, o0, rfl, rfl, hi, hE, hbl⟩ := hrel
    by_cases hlt : i < n
    · have hltI : (i : Int) < (n : Int) := by omega
      have hlS : i < L.length := by have := HX.out.2.1; omega
      obtain ⟨b', o', xd, xm, xk, rfl, hbw, p0, p1, p2, p3, p4, hxs⟩ := HX.out.1.at hlS
      replace p0 : wr.cell? ⟨b', o' + i * 5, none⟩ = some (.int .i64 L[i].dp) := (hbl.cell hbw).trans p0
      replace p1 : wr.cell? ⟨b', o' + i * 5 + 1, none⟩ = some (.int .i64 L[i].cl) := (hbl.cell hbw).trans p1
      replace p2 : wr.cell? ⟨b', o' + i * 5 + 2, none⟩ = some (.int .i64 L[i].tg) := (hbl.cell hbw).trans p2
      replace p3 : wr.cell? ⟨b', o' + i * 5 + 3, none⟩ = some (.bool L[i].co) := (hbl.cell hbw).trans p3
      replace p4 : wr.cell? ⟨b', o' + i * 5 + 4, none⟩ = some (.slice xd xm xk) := (hbl.cell hbw).trans p4
      have hdx := HX.out.2.2 L[i] (List.getElem_mem _)
      have htk : L.take (i + 1) = L.take i ++ [L[i]] := List.take_succ_eq_append_getElem hlS
      obtain ⟨x, hx⟩ : ∃ x, L[i] = x := ⟨_, rfl⟩
      rw [hx] at p0 p1 p2 p3 hxs hdx htk
      obtain ⟨dp, cl, tg, co, d⟩ := x
      simp only [] at p0 p1 p2 p3 hxs hdx
      obtain ⟨Y, hY, hm, hrows, hap⟩ := hE
      have hYl : Y.length = i := by have := congrArg List.length hY; rw [List.length_map, List.length_take] at this; omega
      rw [hYl] at hm
      obtain ⟨oa, oc, ho⟩ := hm.ne
      subst ho
      have hwo := hbl.size
      have HE : Hid (Y.map (·.1) = L.take i ∧ Below w.heap.size w wr ∧ MRow 5 59 w.heap.size wr (.slice oa i oc) i (elCells Y) ∧ (∀ y ∈ Y, Row .u8 5 w.heap.size wr y.2 y.1.d) ∧ Apart (Y.map (·.2)) ∧ Y.length = i) := ⟨hY, hbl, hm, hrows, hap, hYl⟩
      have HXS : Hid (Sl .u8 w (.slice xd xm xk) d ∧ d.length ≤ 1099511627776 ∧ L.take (i + 1) = L.take i ++ [⟨dp, cl, tg, co, d⟩]) := ⟨hxs, hdx, htk⟩
      clear hbl hY hm hrows hap hxs hdx htk hx hYl
      go_upto_region 6 with (fail)
      refine wp_gen (fun W => Below wr.heap.size wr W ∧ Blk 59 W wr.heap.size [.int .i64 dp, .int .i64 cl, .int .i64 tg, .bool co, .slice xd xm xk]) ⟨al1 _, Blk.new _ wr _⟩ ?_
      rintro w3 ⟨hb3, hB3⟩
      have H4 : Hid (Below wr.heap.size wr w3 ∧ Blk 59 w3 wr.heap.size [.int .i64 dp, .int .i64 cl, .int .i64 tg, .bool co, .slice xd xm xk]) := ⟨hb3, hB3⟩
      clear hb3 hB3 p0 p1 p2 p3 p4
      have e4 : w3.cell? ⟨wr.heap.size, 4, none⟩ = some (.slice xd xm xk) := H4.out.2.cell 4
      have h3l : wr.heap.size < w3.heap.size := H4.out.2.lt
      go_upto_region 7 with (at_builtin; refine wpList_ap rfl (.tmp 16) (.tmp 18) 22 22 rfl .u8 5 1 Tryz.und8 Tryz.info8 (by decide) w3.heap.size _ [] rfl (row_emp w3) _ d rfl (src_sl Tryz.und8 (below_sl (HE.out.2.1.trans ((H4.out.1.mono hwo).alloc (by have := H4.out.1.size; omega) _)) HXS.out.1)) (by simp only [List.length_nil]; have := HXS.out.2.1; omega) (by simp) ?_; intro v5 w5 hr5 hg5; have hb5 : Below w3.heap.size w3 w5 := (al1 _).trans ((hg5.below (row_emp w3) (by simp))); rw [List.nil_append] at hr5; obtain ⟨ja, jc, hj5⟩ := hr5.ne; obtain ⟨jl, hjl⟩ : ∃ jl, d.length = jl := ⟨_, rfl⟩; rw [hjl] at hj5; subst hj5; have hB5 := below_blk hb5 H4.out.2.lt H4.out.2; have q4 : w5.cell? ⟨wr.heap.size, 4, none⟩ = some (.slice xd xm xk) := hB5.cell 4; have f4 : w5.frozen? ⟨wr.heap.size, 4, none⟩ = false := hB5.frozen 4)
      have hBs := hB5.set 4 (.slice ja jl jc)
      have hrs := (hr5.mono (B' := wr.heap.size + 1) H4.out.2.lt).upd (Upd.set w5 wr.heap.size 4 (.slice ja jl jc)) (Nat.lt_succ_self _)
      have hbs : Below wr.heap.size wr (w5.setCell ⟨wr.heap.size, 4, none⟩ (.slice ja jl jc)) := (below_via H4.out.1 hb5 (Nat.le_refl _)).setCell (Nat.le_refl _) _
      refine wp_gen (fun W => Below wr.heap.size wr W ∧ Blk 59 W wr.heap.size [.int .i64 dp, .int .i64 cl, .int .i64 tg, .bool co, .slice ja jl jc] ∧ Row .u8 5 (wr.heap.size + 1) W (.slice ja jl jc) d) ⟨hbs, hBs, hrs⟩ ?_
      rintro w9 ⟨hT1, hT2, hT3⟩
      have H9 : Hid (Below wr.heap.size wr w9 ∧ Blk 59 w9 wr.heap.size [.int .i64 dp, .int .i64 cl, .int .i64 tg, .bool co, .slice ja jl jc] ∧ Row .u8 5 (wr.heap.size + 1) w9 (.slice ja jl jc) d) := ⟨hT1, hT2, hT3⟩
      clear hT1 hT2 hT3 hBs hrs hbs hb5 hB5 q4 f4 e4 hr5 hg5 hjl
      have c0 : w9.cell? ⟨wr.heap.size, 0, none⟩ = some (.int .i64 dp) := H9.out.2.1.cell 0
      have c1 : w9.cell? ⟨wr.heap.size, 1, none⟩ = some (.int .i64 cl) := H9.out.2.1.cell 1
      have c2 : w9.cell? ⟨wr.heap.size, 2, none⟩ = some (.int .i64 tg) := H9.out.2.1.cell 2
      have c3 : w9.cell? ⟨wr.heap.size, 3, none⟩ = some (.bool co) := H9.out.2.1.cell 3
      have c4 : w9.cell? ⟨wr.heap.size, 4, none⟩ = some (.slice ja jl jc) := H9.out.2.1.cell 4
      have hw9 : w.heap.size ≤ w9.heap.size := Nat.le_trans hwo H9.out.1.size
      go_upto_region 4 with (at_builtin; refine wpList_apm rfl (.tmp 21) (.tmp 23) 25 25 rfl 5 (.agg zE.toArray) rfl 59 56 Tryz.undE Tryz.infoE (by decide) w.heap.size _ i _ rfl ((HE.out.2.2.1.below H9.out.1).alloc _) _ 1 [.int .i64 dp, .int .i64 cl, .int .i64 tg, .bool co, .slice ja jl jc] rfl (src_m (T := 59) Tryz.undE 5 (blk_nw (by simp) rfl) rfl (elem_one _ _ _ _ _ _ _)) (by omega) (by simp; omega) ?_; intro mv wA hrA hgA)
      have HA : Hid (Elems w.heap.size wA mv (L.take (i + 1)) ∧ Below w.heap.size w wA) := by
        rw [HXS.out.2.2]
        refine ⟨Elems.snoc HE.out.1 (by rw [HE.out.2.2.2.2.2]; exact hrA) (fun y hy => (((HE.out.2.2.2.1 y hy).below H9.out.1).alloc _).mgrew8 hgA (by decide)) HE.out.2.2.2.2.1 (((H9.out.2.2.alloc _).mgrew8 hgA (by decide)).mono (by omega)) wr.heap.size (fun y hy b' h => ((HE.out.2.2.2.1 y hy).blk_lt h).2) (fun b' h => by have := (H9.out.2.2.blk_lt h).1; omega), ?_⟩
        have h1 : Below w.heap.size w w9 := HE.out.2.1.trans (H9.out.1.mono hwo)
        exact (al2' h1).trans (hgA.below ((HE.out.2.2.1.below H9.out.1).alloc _) (by simp; omega))
      clear hrA hgA c0 c1 c2 c3 c4
      go_wp2
      go_roundw
      case rel => exact ⟨i + 1, _, rfl, by go_num, hlt, HA.out.1, HA.out.2⟩
      case measure => simp [intOf]; omega
    · obtain rfl : i = n := by omega
      have hltI : ¬ (i : Int) < (i : Int) := by omega
      have HF : Hid (Elems w.heap.size wr o0 L ∧ Below w.heap.size w wr) := by
        rw [List.take_of_length_le (by rw [HX.out.2.1]; exact Nat.le_refl _)] at hE
        exact ⟨hE, hbl⟩
      clear hE hbl
      go_wp2
      go_ret
      exact ⟨⟨_, rfl, HF.out.1⟩, HF.out.2⟩
end Go.Proofs.YtefebamomdcaaaaGreatDoor
