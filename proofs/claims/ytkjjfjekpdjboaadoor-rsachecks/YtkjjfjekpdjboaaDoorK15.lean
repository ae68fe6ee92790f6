/-
  Lists of digits of 16 bits: their values, the digits of a number; limbs cut into digits, digits put together as limbs. No Go text in sight.
-/
import Derived.Deep.RegionHeld3
import Derived.Test.YtkjjfjekpdjboaaDoorK14
namespace Go.Proofs.YtkjjfjekpdjboaaDoor.D
/-! ### numbers as lists of digits -/
def U16 (x : Int) : Prop := 0 ≤ x ∧ x < 65536
def U16s (xs : List Int) : Prop := ∀ x ∈ xs, U16 x
def val : List Int → Int
  | [] => 0
  | x :: xs => x + 65536 * val xs
def sig : List Int → Nat
  | [] => 0
  | x :: xs => if sig xs = 0 then (if x = 0 then 0 else 1) else sig xs + 1
def limF : Nat → Nat → List Int
  | 0, _ => []
  | f + 1, n => if n = 0 then [] else ((n % 65536 : Nat) : Int) :: limF f (n / 65536)
/-- The digits of a number, the lowest first. -/
def lim (n : Nat) : List Int := limF n n

theorem U16s.at {xs : List Int} (h : U16s xs) (i : Nat) : U16 (xs.getD i 0) := by
  by_cases hi : i < xs.length
  · simp [hi]; exact h _ (List.getElem_mem hi)
  · simp [List.getD, List.getElem?_eq_none (Nat.le_of_not_lt hi), U16]
theorem U16s.nil : U16s [] := by intro x hx; simp at hx
theorem U16s.cons {x : Int} {xs : List Int} (h : U16 x) (hs : U16s xs) : U16s (x :: xs) := by
  intro y hy; rcases List.mem_cons.1 hy with rfl | hy
  · exact h
  · exact hs y hy
theorem U16s.head {x : Int} {xs : List Int} (h : U16s (x :: xs)) : U16 x := h x (by simp)
theorem U16s.tail {x : Int} {xs : List Int} (h : U16s (x :: xs)) : U16s xs := fun y hy => h y (by simp [hy])
theorem U16s.take {xs : List Int} (h : U16s xs) (n : Nat) : U16s (xs.take n) := fun y hy => h y (List.mem_of_mem_take hy)
theorem U16s.drop {xs : List Int} (h : U16s xs) (n : Nat) : U16s (xs.drop n) := fun y hy => h y (List.mem_of_mem_drop hy)
theorem U16s.append {xs ys : List Int} (h : U16s xs) (k : U16s ys) : U16s (xs ++ ys) := by
  intro y hy; rcases List.mem_append.1 hy with hy | hy
  · exact h y hy
  · exact k y hy
theorem U16s.set {xs : List Int} (h : U16s xs) (i : Nat) {x : Int} (hx : U16 x) : U16s (xs.set i x) := by
  intro y hy; rcases List.mem_or_eq_of_mem_set hy with hy | rfl
  · exact h y hy
  · exact hx
theorem U16s.zeros (n : Nat) : U16s (List.replicate n 0) := by
  intro y hy; rw [(List.mem_replicate.1 hy).2]; exact ⟨by decide, by decide⟩

theorem val_nonneg {xs : List Int} (h : U16s xs) : 0 ≤ val xs := by
  induction xs with
  | nil => simp [val]
  | cons x xs ih => have := ih h.tail; have := h.head.1; simp only [val]; omega
theorem pow_succ16 (n : Nat) : (65536 : Int) ^ (n + 1) = 65536 * 65536 ^ n := by rw [Int.pow_succ, Int.mul_comm]
theorem pow_pos16 (n : Nat) : (0 : Int) < 65536 ^ n := Int.pow_pos (by decide)
theorem val_lt {xs : List Int} (h : U16s xs) : val xs < 65536 ^ xs.length := by
  induction xs with
  | nil => simp [val]
  | cons x xs ih => have := ih h.tail; have h1 := h.head; unfold U16 at h1; simp only [val, List.length_cons, pow_succ16]; omega
theorem val_append (xs ys : List Int) : val (xs ++ ys) = val xs + 65536 ^ xs.length * val ys := by
  induction xs with
  | nil => simp [val]
  | cons x xs ih => simp only [List.cons_append, val, ih, List.length_cons, pow_succ16, Int.mul_add, Int.mul_assoc]; omega
theorem val_zeros (n : Nat) : val (List.replicate n 0) = 0 := by
  induction n with
  | zero => rfl
  | succ n ih => simp [List.replicate_succ, val, ih]
theorem sig_le (xs : List Int) : sig xs ≤ xs.length := by
  induction xs with
  | nil => simp [sig]
  | cons x xs ih => simp only [sig, List.length_cons]; split <;> (try split) <;> omega
theorem val_of_sig0 {xs : List Int} (h : sig xs = 0) : val xs = 0 := by
  induction xs with
  | nil => rfl
  | cons x xs ih =>
    simp only [sig] at h
    split at h
    · split at h
      · rename_i h1 h2; simp [val, h2, ih h1]
      · omega
    · omega
theorem sig0_of_val {xs : List Int} (hu : U16s xs) (h : val xs = 0) : sig xs = 0 := by
  induction xs with
  | nil => rfl
  | cons x xs ih =>
    have h1 := val_nonneg hu.tail; have h2 := hu.head; unfold U16 at h2
    simp only [val] at h
    have hv : val xs = 0 := by omega
    have hx : x = 0 := by omega
    simp [sig, ih hu.tail hv, hx]
theorem val_take_sig (xs : List Int) : val (xs.take (sig xs)) = val xs := by
  induction xs with
  | nil => rfl
  | cons x xs ih =>
    simp only [sig]
    split
    · rename_i h
      split
      · rename_i hx; simp [val, hx, val_of_sig0 h]
      · simp [val, val_of_sig0 h]
    · simp [val, ih]
/-- What 'length' finds is 'sig'. -/
theorem sig_eq {xs : List Int} {k : Nat} (hk : k ≤ xs.length) (h0 : ∀ j, k ≤ j → j < xs.length → xs.getD j 0 = 0) (h1 : k = 0 ∨ xs.getD (k - 1) 0 ≠ 0) : sig xs = k := by
  induction xs generalizing k with
  | nil => simp at hk; simp [sig, hk]
  | cons x xs ih =>
    cases k with
    | zero =>
      have hs : sig xs = 0 := ih (k := 0) (Nat.zero_le _) (fun j _ hj => by simpa using h0 (j + 1) (Nat.zero_le _) (by simpa using hj)) (.inl rfl)
      have hx : x = 0 := by simpa using h0 0 (Nat.le_refl _) (by simp)
      simp [sig, hs, hx]
    | succ k =>
      have hkl : k ≤ xs.length := by simpa using hk
      have hz : ∀ j, k ≤ j → j < xs.length → xs.getD j 0 = 0 := fun j hj hl => by simpa using h0 (j + 1) (by omega) (by simpa using hl)
      cases k with
      | zero =>
        have hs : sig xs = 0 := ih (k := 0) (Nat.zero_le _) hz (.inl rfl)
        have hx : x ≠ 0 := by simpa using h1
        simp [sig, hs, hx]
      | succ k =>
        have hs : sig xs = k + 1 := ih hkl hz (.inr (by simpa using h1))
        simp [sig, hs]
theorem sig_last {xs : List Int} (h : 0 < sig xs) : xs.getD (sig xs - 1) 0 ≠ 0 := by
  induction xs with
  | nil => simp [sig] at h
  | cons x xs ih =>
    simp only [sig] at h ⊢
    split
    · rename_i h1
      split
      · rename_i h2; simp [h1, h2] at h
      · rename_i h2; simpa using h2
    · rename_i h1
      have := ih (by omega)
      obtain ⟨m, hm⟩ : ∃ m, sig xs = m + 1 := ⟨sig xs - 1, by omega⟩
      rw [hm] at this ⊢
      simpa using this
theorem sig_take {xs : List Int} : sig (xs.take (sig xs)) = sig xs := by
  have hl := sig_le xs
  refine sig_eq (by simp; omega) (fun j h1 h2 => by simp at h2; omega) ?_
  by_cases h : sig xs = 0
  · exact .inl h
  · refine .inr ?_
    have := sig_last (xs := xs) (by omega)
    rw [List.getD_eq_getElem?_getD, List.getElem?_take, if_pos (by omega), ← List.getD_eq_getElem?_getD]; exact this
theorem limF_fuel (f : Nat) : ∀ g n, n ≤ f → n ≤ g → limF f n = limF g n := by
  induction f with
  | zero =>
    intro g n h1 _
    have : n = 0 := by omega
    subst this
    cases g <;> simp [limF]
  | succ f ih =>
    intro g n h1 h2
    cases g with
    | zero =>
      have : n = 0 := by omega
      subst this; simp [limF]
    | succ g =>
      simp only [limF]
      split
      · rfl
      · rw [ih g (n / 65536) (by omega) (by omega)]
theorem lim_zero : lim 0 = [] := rfl
theorem lim_pos {n : Nat} (h : n ≠ 0) : lim n = ((n % 65536 : Nat) : Int) :: lim (n / 65536) := by
  obtain ⟨m, rfl⟩ : ∃ m, n = m + 1 := ⟨n - 1, by omega⟩
  unfold lim
  rw [limF, if_neg h, limF_fuel m ((m + 1) / 65536) ((m + 1) / 65536) (by omega) (Nat.le_refl _)]
theorem lim_u16 (n : Nat) : U16s (lim n) := by
  induction n using Nat.strongRecOn with
  | _ n ih =>
    by_cases h : n = 0
    · subst h; rw [lim_zero]; exact U16s.nil
    · rw [lim_pos h]; exact U16s.cons ⟨by omega, by omega⟩ (ih _ (by omega))
theorem val_lim (n : Nat) : val (lim n) = n := by
  induction n using Nat.strongRecOn with
  | _ n ih =>
    by_cases h : n = 0
    · subst h; rw [lim_zero]; rfl
    · rw [lim_pos h]; simp only [val]; rw [ih _ (by omega)]; omega
theorem sig_lim (n : Nat) : sig (lim n) = (lim n).length := by
  induction n using Nat.strongRecOn with
  | _ n ih =>
    by_cases h : n = 0
    · subst h; rw [lim_zero]; rfl
    · rw [lim_pos h]
      have h1 := ih (n / 65536) (by omega)
      simp only [sig, List.length_cons, h1]
      split
      · rename_i h0
        have h2 : lim (n / 65536) = [] := List.eq_nil_of_length_eq_zero h0
        have h3 := val_lim (n / 65536); rw [h2] at h3; simp [val] at h3
        split <;> simp [h2] <;> omega
      · rfl
/-- A list without a digit 0 at its end is told by its value. -/
theorem lim_val {xs : List Int} (hu : U16s xs) (h : sig xs = xs.length) : lim (val xs).toNat = xs := by
  induction xs with
  | nil => simp [val, lim_zero]
  | cons x xs ih =>
    have hx := hu.head; unfold U16 at hx
    have hv := val_nonneg hu.tail
    have h2 : sig xs = xs.length := by
      simp only [sig, List.length_cons] at h
      split at h
      · rename_i h0; split at h <;> omega
      · omega
    have hne : (val (x :: xs)).toNat ≠ 0 := by
      intro h0
      have : val (x :: xs) = 0 := by have := val_nonneg hu; omega
      have := sig0_of_val hu this
      simp at h; omega
    rw [lim_pos hne]
    have e1 : (val (x :: xs)).toNat % 65536 = x.toNat := by simp only [val]; omega
    have e2 : (val (x :: xs)).toNat / 65536 = (val xs).toNat := by simp only [val]; omega
    rw [e1, e2, ih hu.tail h2]; congr 1; omega
theorem take_sig_lim {xs : List Int} (hu : U16s xs) : xs.take (sig xs) = lim (val xs).toNat := by
  have := lim_val (hu.take (sig xs)) (by rw [sig_take]; simp; have := sig_le xs; omega)
  rw [val_take_sig] at this; exact this.symm
theorem lim_len_le {n : Nat} {k : Nat} (h : (n : Int) < 65536 ^ k) : (lim n).length ≤ k := by
  induction k generalizing n with
  | zero => have : n = 0 := by simp at h; omega
            subst this; simp [lim_zero]
  | succ k ih =>
    by_cases h0 : n = 0
    · subst h0; simp [lim_zero]
    · rw [lim_pos h0, List.length_cons]
      have : ((n / 65536 : Nat) : Int) < 65536 ^ k := by rw [pow_succ16] at h; omega
      have := ih this; omega

theorem pow_mono {i j : Nat} (h : i ≤ j) : (65536 : Int) ^ i ≤ 65536 ^ j := by
  induction j with
  | zero => have : i = 0 := by omega
            subst this; exact Int.le_refl _
  | succ j ih =>
    by_cases hj : i = j + 1
    · subst hj; exact Int.le_refl _
    · have h1 := ih (by omega); have h2 := pow_pos16 j; rw [pow_succ16]; omega
theorem lim_fits {n : Int} {k : Nat} (h0 : 0 ≤ n) (h : n < 65536 ^ k) : (lim n.toNat).length ≤ k := lim_len_le (by rw [Int.toNat_of_nonneg h0]; exact h)
theorem val_limI {n : Int} (h0 : 0 ≤ n) : val (lim n.toNat) = n := by rw [val_lim, Int.toNat_of_nonneg h0]
theorem len_val {n : Nat} : ((lim n).length = 0) ↔ n = 0 := by
  constructor
  · intro h
    have h1 := val_lim n
    rw [List.eq_nil_of_length_eq_zero h] at h1; simp [val] at h1; omega
  · rintro rfl; rfl
/-- A number of k digits, the highest of which is not 0, is at least 65536 ^ (k - 1). -/
theorem lim_ge {n : Nat} {k : Nat} (h : (lim n).length = k + 1) : (65536 : Int) ^ k ≤ n := by
  apply Decidable.byContradiction
  intro hc
  have := lim_len_le (n := n) (k := k) (by omega)
  omega
theorem sig_tail {x : Int} {xs : List Int} (h : sig (x :: xs) = (x :: xs).length) : sig xs = xs.length := by
  simp only [sig, List.length_cons] at h
  split at h
  · rename_i h0; split at h <;> omega
  · omega
theorem val_snoc (xs : List Int) (x : Int) : val (xs ++ [x]) = val xs + 65536 ^ xs.length * x := by rw [val_append]; simp [val]
theorem take_snoc (xs : List Int) {i : Nat} (h : i < xs.length) : xs.take (i + 1) = xs.take i ++ [xs.getD i 0] := by
  rw [List.take_add_one, List.getElem?_eq_getElem h]; simp [List.getD, List.getElem?_eq_getElem h]
theorem val_take_succ (xs : List Int) (i : Nat) : val (xs.take (i + 1)) = val (xs.take i) + 65536 ^ i * xs.getD i 0 := by
  by_cases h : i < xs.length
  · rw [take_snoc xs h, val_snoc]; rw [List.length_take, Nat.min_eq_left (by omega)]
  · rw [List.take_of_length_le (by omega), List.take_of_length_le (by omega)]; simp [List.getD, List.getElem?_eq_none (Nat.le_of_not_lt h)]
theorem val_ext : ∀ (xs ys : List Int), (∀ j, xs.getD j 0 = ys.getD j 0) → val xs = val ys
  | [], [], _ => rfl
  | x :: xs, [], h => by
    have h0 := h 0; have := val_ext xs [] (fun j => by simpa using h (j + 1)); simp at h0; simp [val] at this ⊢; omega
  | [], y :: ys, h => by
    have h0 := h 0; have := val_ext [] ys (fun j => by simpa using h (j + 1)); simp at h0; simp [val] at this ⊢; omega
  | x :: xs, y :: ys, h => by
    have h0 := h 0; have := val_ext xs ys (fun j => by simpa using h (j + 1)); simp at h0; simp [val]; omega
theorem getD_tail (xs : List Int) (j : Nat) : xs.tail.getD j 0 = xs.getD (j + 1) 0 := by cases xs <;> simp
theorem val_head_tail (xs : List Int) : val xs = xs.getD 0 0 + 65536 * val xs.tail := by cases xs <;> simp [val]
theorem U16s.tl {xs : List Int} (h : U16s xs) : U16s xs.tail := fun y hy => h y (List.mem_of_mem_tail hy)
theorem val_lt_of (i : Nat) : ∀ (xs ys : List Int), U16s xs → U16s ys → (∀ j, i < j → xs.getD j 0 = ys.getD j 0) → xs.getD i 0 < ys.getD i 0 → val xs < val ys := by
  induction i with
  | zero =>
    intro xs ys ux uy h hlt
    have := val_ext xs.tail ys.tail (fun j => by rw [getD_tail, getD_tail]; exact h (j + 1) (by omega))
    rw [val_head_tail xs, val_head_tail ys]; omega
  | succ i ih =>
    intro xs ys ux uy h hlt
    have := ih xs.tail ys.tail ux.tl uy.tl (fun j hj => by rw [getD_tail, getD_tail]; exact h (j + 1) (by omega)) (by rw [getD_tail, getD_tail]; exact hlt)
    have h1 := ux.at 0; have h2 := uy.at 0
    unfold U16 at h1 h2
    rw [val_head_tail xs, val_head_tail ys]; omega
end Go.Proofs.YtkjjfjekpdjboaaDoor.D
namespace Go.Proofs.YtkjjfjekpdjboaaDoor
def split : List Int → List Int
  | [] => []
  | x :: xs => x % 65536 :: x / 65536 :: split xs
theorem split_length (xs : List Int) : (split xs).length = 2 * xs.length := by
  induction xs with
  | nil => rfl
  | cons x xs ih => simp only [split, List.length_cons, ih]; omega
theorem split_val (xs : List Int) : D.val (split xs) = val xs := by
  induction xs with
  | nil => rfl
  | cons x xs ih => simp only [split, D.val, val, ih]; omega
theorem split_u16 {xs : List Int} (h : U32s xs) : D.U16s (split xs) := by
  induction xs with
  | nil => exact D.U16s.nil
  | cons x xs ih =>
    have hx := h.head; unfold U32 at hx
    exact D.U16s.cons ⟨by omega, by omega⟩ (D.U16s.cons ⟨by omega, by omega⟩ (ih h.tail))
theorem split_append (xs ys : List Int) : split (xs ++ ys) = split xs ++ split ys := by
  induction xs with
  | nil => rfl
  | cons x xs ih => simp only [List.cons_append, split, ih]
theorem split_snoc (xs : List Int) {i : Nat} (h : i < xs.length) : split (xs.take (i + 1)) = split (xs.take i) ++ [xs.getD i 0 % 65536, xs.getD i 0 / 65536] := by
  rw [D.take_snoc xs h, split_append]; rfl
def join : List Int → List Int
  | [] => []
  | [d] => [d]
  | d :: e :: r => (d + 65536 * e) :: join r
theorem join_val (n : Nat) : ∀ ds : List Int, ds.length ≤ n → val (join ds) = D.val ds := by
  induction n with
  | zero => intro ds h; have : ds = [] := List.eq_nil_of_length_eq_zero (by omega); subst this; rfl
  | succ n ih =>
    intro ds h
    match ds with
    | [] => rfl
    | [d] => simp [join, val, D.val]
    | d :: e :: r => simp only [join, val, D.val]; rw [ih r (by simp at h; omega)]; omega
theorem join_u32 (n : Nat) : ∀ ds : List Int, ds.length ≤ n → D.U16s ds → U32s (join ds) := by
  induction n with
  | zero => intro ds h _; have : ds = [] := List.eq_nil_of_length_eq_zero (by omega); subst this; exact U32s.nil
  | succ n ih =>
    intro ds h hu
    match ds with
    | [] => exact U32s.nil
    | [d] => have := hu.head; unfold D.U16 at this; exact U32s.cons ⟨by omega, by omega⟩ U32s.nil
    | d :: e :: r =>
      have h1 := hu.head; have h2 := hu.tail.head; unfold D.U16 at h1 h2
      exact U32s.cons ⟨by omega, by omega⟩ (ih r (by simp at h; omega) hu.tail.tail)
theorem join_sig (n : Nat) : ∀ ds : List Int, ds.length ≤ n → D.U16s ds → D.sig ds = ds.length → sig (join ds) = (join ds).length := by
  induction n with
  | zero => intro ds h _ _; have : ds = [] := List.eq_nil_of_length_eq_zero (by omega); subst this; rfl
  | succ n ih =>
    intro ds h hu hs
    match ds with
    | [] => rfl
    | [d] =>
      simp only [D.sig, List.length_cons, List.length_nil] at hs
      simp only [join, sig, List.length_cons, List.length_nil]
      by_cases hd : d = 0
      · simp [hd] at hs
      · simp [hd]
    | d :: e :: r =>
      have h1 := hu.head; have h2 := hu.tail.head; unfold D.U16 at h1 h2
      have hr : D.sig r = r.length := by
        exact D.sig_tail (D.sig_tail hs)
      have hj := ih r (by simp at h; omega) hu.tail.tail hr
      simp only [join, sig, List.length_cons, hj]
      split
      · rename_i h0
        have hr0 : r = [] := by
          match r with
          | [] => rfl
          | [x] => simp [join] at h0
          | x :: y :: z => simp [join] at h0
        subst hr0
        have he : e ≠ 0 := by
          intro he
          have := D.sig_tail hs
          simp [D.sig, he] at this
        rw [if_neg (by omega)]; omega
      · rfl
theorem join_lim (n : Nat) : join (D.lim n) = lim n := by
  have hu := join_u32 _ (D.lim n) (Nat.le_refl _) (D.lim_u16 n)
  have hs := join_sig _ (D.lim n) (Nat.le_refl _) (D.lim_u16 n) (D.sig_lim n)
  have hv := join_val _ (D.lim n) (Nat.le_refl _)
  have := lim_val hu hs
  rw [hv, D.val_lim] at this; simpa using this.symm
theorem join_snoc (k : Nat) : ∀ ds : List Int, 2 * k < ds.length → join (ds.take (2 * (k + 1))) = join (ds.take (2 * k)) ++ [ds.getD (2 * k) 0 + 65536 * ds.getD (2 * k + 1) 0] := by
  induction k with
  | zero =>
    intro ds h
    match ds with
    | [d] => simp [join]
    | d :: e :: r => simp [join]
  | succ k ih =>
    intro ds h
    match ds with
    | [d] => simp at h
    | d :: e :: r =>
      have := ih r (by simp at h; omega)
      have e1 : 2 * (k + 1 + 1) = 2 * (k + 1) + 2 := by omega
      have e2 : 2 * (k + 1) = 2 * k + 2 := by omega
      rw [e1, e2, List.take_succ_cons, List.take_succ_cons, List.take_succ_cons, List.take_succ_cons]
      simp only [join, List.cons_append]
      rw [show 2 * k + 2 = 2 * (k + 1) by omega, this]
      simp [show 2 * (k + 1) = 2 * k + 1 + 1 by omega]
theorem join_length_le (n : Nat) : ∀ ds : List Int, ds.length ≤ n → (join ds).length ≤ ds.length := by
  induction n with
  | zero => intro ds h; have : ds = [] := List.eq_nil_of_length_eq_zero (by omega); subst this; simp [join]
  | succ n ih =>
    intro ds h
    match ds with
    | [] => simp [join]
    | [d] => simp [join]
    | d :: e :: r => have := ih r (by simp at h; omega); simp only [join, List.length_cons]; omega
end Go.Proofs.YtkjjfjekpdjboaaDoor
/-
  Der: of the reference: plain, Limbs, FromBytes, Same (picked from W17, W31, W33, W37, W44 by pick.py).
-/
namespace Go.Proofs.YtkjjfjekpdjboaaDoor
open Go.RowKit
theorem al {a w : World} {o : Obj} (h : Below a.heap.size a w) : Below a.heap.size a (w.alloc o) := h.alloc h.size o
theorem grow0 {a w w' : World} (h : Below a.heap.size a w) (hB : Below w.heap.size w w') : Below a.heap.size a w' := h.trans (hB.mono h.size)
theorem arr_new {k : IntKind} {e : TypeId} {w : World} {b : Nat} {cs : Array Value} {xs : List Int} (hb : b = w.heap.size) (h : cs = (xs.map (Value.int k)).toArray) : Arr k e (w.alloc (.cells cs e)) b xs := by
  subst hb; subst h; unfold Arr; rw [heap_alloc_new]
set_option maxHeartbeats 400000 in
theorem plain_any (xs : List Int) (a : Option Addr) (c : Nat) (w : World) (h : Sl .u64 w (.slice a xs.length c) xs) (hl : xs.length ≤ 1152921504606846976) :
    Calls Tryd.prog 55 #[.slice a xs.length c] w fun e w' => e = .returned (.slice a (D.sig xs) c) ∧ w' = w := by
  have hc : xs.length ≤ c := by obtain ⟨_, _, h1, hc, _⟩ := h; cases h1; exact hc
  obtain ⟨a, c, hv, _, h1⟩ := h
  cases hv
  rcases h1 with rfl | ⟨b, off, rfl, hb, hr⟩
  · simp only [List.length_nil]
    go_enter Tryd.func55, Tryd.ntmps55
    go_wp2
    go_loop [3] (fun i => i = .int .i64 0) (fun _ => 0)
    case atStart => rfl
    case round =>
      subst hrel
      go_wp2
      go_ret
      exact ⟨by simp [D.sig], rfl⟩
  · go_enter Tryd.func55, Tryd.ntmps55
    go_wp2
    go_loop [3] (fun i => ∃ k : Nat, k ≤ xs.length ∧ i = .int .i64 k ∧ ∀ j, k ≤ j → j < xs.length → xs.getD j 0 = 0) (fun i => (intOf i).toNat)
    case atStart => exact ⟨xs.length, Nat.le_refl _, rfl, fun j h1 h2 => by omega⟩
    case round =>
      obtain ⟨k, hk, rfl, hz⟩ := hrel
      by_cases hk0 : k = 0
      · subst hk0
        have HS : Hid (D.sig xs = 0) := D.sig_eq (Nat.zero_le _) hz (.inl rfl)
        clear hz
        go_wp2
        go_ret
        exact ⟨by rw [HS.out]; rfl, rfl⟩
      · obtain ⟨m, rfl⟩ : ∃ m, k = m + 1 := ⟨k - 1, by omega⟩
        obtain ⟨x, hx⟩ : ∃ x, xs.getD m 0 = x := ⟨_, rfl⟩
        have hcell := hr m (by omega)
        rw [hx] at hcell
        have HZ : Hid (∀ j, m + 1 ≤ j → j < xs.length → xs.getD j 0 = 0) := hz
        have HX : Hid (xs.getD m 0 = x) := hx
        clear hz hx hr
        by_cases hx0 : x = 0
        · go_wp2
          go_round
          case rel => exact ⟨m, by omega, by go_num, fun j h1 h2 => by
            by_cases h3 : j = m
            · subst h3; rw [HX.out]; exact hx0
            · exact HZ.out j (by omega) h2⟩
          case measure => simp [intOf]
        · go_wp2
          go_ret
          exact ⟨by rw [D.sig_eq (k := m + 1) hk HZ.out (.inr (by intro h3; exact hx0 (HX.out.symm.trans h3)))]; rfl, rfl⟩
theorem plain_sl {w : World} (v : Value) (xs : List Int) (h : Sl .u64 w v xs) (hu : D.U16s xs) (hl : xs.length ≤ 1152921504606846976) (N : Int) (hN : D.val xs = N) :
    Calls Tryd.prog 55 #[v] w fun e w' => ∃ r, e = .returned r ∧ Sl .u64 w' r (D.lim N.toNat) ∧ w = w' := by
  subst hN
  have h0 := h
  obtain ⟨a, c, rfl, hc, h1⟩ := h
  refine (plain_any xs a c w h0 hl).mono ?_
  rintro e w' ⟨rfl, rfl⟩
  have hs := D.sig_le xs
  have e1 := D.take_sig_lim hu
  have e2 : (D.lim (D.val xs).toNat).length = D.sig xs := by rw [← e1]; simp; omega
  refine ⟨_, rfl, ⟨a, c, by rw [e2], by omega, ?_⟩, rfl⟩
  rcases h1 with rfl | ⟨b, off, rfl, hb, hr⟩
  · left; rfl
  · right; exact ⟨b, off, rfl, hb, by rw [← e1]; exact hr.take _⟩
theorem Arr.sl64 {w : World} {b : Nat} {S : List Int} (h : Arr .u64 57 w b S) : Sl .u64 w (.slice (some ⟨b, 0, none⟩) S.length S.length) S :=
  ⟨_, _, rfl, Nat.le_refl _, .inr ⟨b, 0, rfl, h.lt, by have := h.rd 0 S.length (by omega); rw [List.drop_zero, List.take_length] at this; exact this⟩⟩
/-- A number and an error, as two results, in whatever memory. -/
def RTwo (w : World) (e : Ending) (s : List Int × Int) : Prop := ∃ r, e = .returned (.tuple #[r, .int .i64 s.2]) ∧ Sl .u32 w r s.1
theorem RTwo.nil' {w : World} {n : Int} {s : List Int × Int} (hs : s = ([], n)) : RTwo w (.returned (.tuple #[.slice none 0 0, .int .i64 n])) s := by
  subst hs; exact ⟨_, rfl, ⟨none, 0, rfl, Nat.le_refl _, .inl rfl⟩⟩
theorem RTwo.mk' {w : World} {r : Value} {n : Int} {L : List Int} {s : List Int × Int} (h : Sl .u32 w r L) (hs : s = (L, n)) : RTwo w (.returned (.tuple #[r, .int .i64 n])) s := by
  subst hs; exact ⟨r, rfl, h⟩
def joinB : List Int → List Int
  | [] => []
  | [d] => [d]
  | d :: e :: r => (d + 256 * e) :: joinB r
theorem joinB_val (n : Nat) : ∀ ds : List Int, ds.length ≤ n → D.val (joinB ds) = bv ds := by
  induction n with
  | zero => intro ds h; have : ds = [] := List.eq_nil_of_length_eq_zero (by omega); subst this; rfl
  | succ n ih =>
    intro ds h
    match ds with
    | [] => rfl
    | [d] => simp [joinB, bv, D.val]
    | d :: e :: r => simp only [joinB, bv, D.val]; rw [ih r (by simp at h; omega)]; omega
theorem joinB_u16 (n : Nat) : ∀ ds : List Int, ds.length ≤ n → U8s ds → D.U16s (joinB ds) := by
  induction n with
  | zero => intro ds h _; have : ds = [] := List.eq_nil_of_length_eq_zero (by omega); subst this; exact D.U16s.nil
  | succ n ih =>
    intro ds h hu
    match ds with
    | [] => exact D.U16s.nil
    | [d] => have := hu d (by simp); unfold U8 at this; exact D.U16s.cons ⟨by omega, by omega⟩ D.U16s.nil
    | d :: e :: r =>
      have h1 := hu d (by simp); have h2 := hu e (by simp); unfold U8 at h1 h2
      exact D.U16s.cons ⟨by omega, by omega⟩ (ih r (by simp at h; omega) hu.tail.tail)
theorem joinB_snoc (k : Nat) : ∀ ds : List Int, 2 * k < ds.length → joinB (ds.take (2 * (k + 1))) = joinB (ds.take (2 * k)) ++ [ds.getD (2 * k) 0 + 256 * ds.getD (2 * k + 1) 0] := by
  induction k with
  | zero =>
    intro ds h
    match ds with
    | [d] => simp [joinB]
    | d :: e :: r => simp [joinB]
  | succ k ih =>
    intro ds h
    match ds with
    | [d] => simp at h
    | d :: e :: r =>
      have := ih r (by simp at h; omega)
      have e1 : 2 * (k + 1 + 1) = 2 * (k + 1) + 2 := by omega
      have e2 : 2 * (k + 1) = 2 * k + 2 := by omega
      rw [e1, e2, List.take_succ_cons, List.take_succ_cons, List.take_succ_cons, List.take_succ_cons]
      simp only [joinB, List.cons_append]
      rw [show 2 * k + 2 = 2 * (k + 1) by omega, this]
      simp [show 2 * (k + 1) = 2 * k + 1 + 1 by omega]
theorem joinB_length_le (n : Nat) : ∀ ds : List Int, ds.length ≤ n → (joinB ds).length ≤ ds.length := by
  induction n with
  | zero => intro ds h; have : ds = [] := List.eq_nil_of_length_eq_zero (by omega); subst this; simp [joinB]
  | succ n ih =>
    intro ds h
    match ds with
    | [] => simp [joinB]
    | [d] => simp [joinB]
    | d :: e :: r => have := ih r (by simp at h; omega); simp only [joinB, List.length_cons]; omega
end Go.Proofs.YtkjjfjekpdjboaaDoor
/-
  Der: of the reference: Digits, Trim (picked from W33, W37 by pick.py).
-/
namespace Go.Proofs.YtkjjfjekpdjboaaDoor
open Go.RowKit
set_option maxRecDepth 6000
theorem and16 (x : Int) (h0 : 0 ≤ x) (h1 : x < 4294967296) : bits BinOp.and .u32 x 65535 = x % 65536 := by go_bits2
set_option maxHeartbeats 2000000 in
theorem Digits_any {w : World} (v : Value) (X : List Int) (hX : Sl .u32 w v X) (uX : U32s X) (hl : X.length ≤ 8796093022208) (N : Int) (hN : val X = N) :
    Calls Tryd.prog 36 #[v] w fun e w' => ∃ r, e = .returned r ∧ Sl .u64 w' r (D.lim N.toNat) ∧ Below w.heap.size w w' := by
  have hX0 := hX
  obtain ⟨a, c, hv, hc⟩ := hX.len
  subst hv
  have HN : Hid (val X = N) := hN
  clear hN
  go_enter Tryd.func36, Tryd.ntmps36
  go_wp2
  go_loopw [3, 4] (fun o i wr => ∃ k : Nat, k ≤ X.length ∧ i = .int .i64 k ∧ Row .u64 57 w.heap.size wr o (split (X.take k)) ∧ Below w.heap.size w wr) (fun _ i _ => X.length - (intOf i).toNat)
  case atStart => exact ⟨0, by omega, rfl, Row.nil _ _ _ _, Below.refl _ _⟩
  case round =>
    obtain ⟨k, hk, rfl, hrow, hBt⟩ := hrel
    by_cases hlt : k < X.length
    · obtain ⟨x, hx⟩ : ∃ x, X.getD k 0 = x := ⟨_, rfl⟩
      have ux : U32 x := hx ▸ uX.at k
      obtain ⟨ux1, ux2⟩ := ux
      obtain ⟨b, off, ha, hb, hr⟩ : ∃ b off, a = some ⟨b, off, none⟩ ∧ b < w.heap.size ∧ Rd .u32 w b off X := by
        obtain ⟨a', c', h1, _, h2⟩ := hX0
        cases h1
        rcases h2 with rfl | ⟨b, off, rfl, hb, hr⟩
        · simp at hlt
        · exact ⟨b, off, rfl, hb, hr⟩
      subst ha
      have hcx : wr.cell? ⟨b, off + k, none⟩ = some (.int .u32 x) := by rw [hBt.cell hb, hr k hlt, hx]
      have e1 := and16 x ux1 ux2
      have hw1 : IntKind.u64.wrap (x % 65536) = x % 65536 := by rw [IntKind.wrap_u64]; omega
      have hw2 : IntKind.u64.wrap (x / 65536) = x / 65536 := by rw [IntKind.wrap_u64]; omega
      have HH : Hid (X.getD k 0 = x ∧ Below w.heap.size w wr) := ⟨hx, hBt⟩
      have hsz : w.heap.size ≤ wr.heap.size := hBt.size
      have hlen : (split (X.take k)).length = 2 * k := by rw [split_length]; simp; omega
      have HL : Hid ((split (X.take k)).length = 2 * k) := hlen
      have hk0 : (0 : Int) ≤ (k : Int) := by omega
      have hkl : (k : Int) < (X.length : Int) := by omega
      clear hx hr hX hX0 hBt hlen
      go_wp2
      go_region_held3 (fun w' => w'.cell? ⟨b, off + k, none⟩ = some (.int .u32 x)) (first | go_keep | (rw [hB1.cell hb]; go_keep))
        ((refine step_ap (by rfl) (.tmp 11) (.tmp 24) 55 55 (by rfl) .u64 57 8 Tryd.und64 Tryd.info64 (by decide) w.heap.size _ (split (X.take k)) (by rfl) (Row.alloc (by assumption) _) _ [x % 65536, x / 65536] (by rfl) (src_sl Tryd.und64 (Arr.sl64 (S := [x % 65536, x / 65536]) (arr_new rfl rfl))) (by rw [HL.out]; show (2 * k + 2) * 8 ≤ _; omega) (by simp; omega) ?_; intro v1 w1 hr1 hg1; have hB1 := hg1.below (Row.alloc (by assumption) _) (by simp; omega)))
      all_goals go_wp2
      go_roundw
      case rel =>
        obtain ⟨hx, hBt⟩ := HH.out
        refine ⟨k + 1, by omega, by go_num, ?_, (al hBt).drew.trans hB1⟩
        rw [split_snoc X hlt, hx]; exact hr1
      case measure => simp [intOf]; omega
    · have hfull : X.take k = X := List.take_of_length_le (by omega)
      rw [hfull] at hrow
      have hs := hrow.sl
      clear hfull hX hX0 hrow
      go_wp2_with (go_at_call 55; refine (plain_sl _ (split X) hs (split_u16 uX) (by rw [split_length]; omega) N (by rw [split_val]; exact HN.out)).mono ?_; rintro e w' ⟨r, rfl, hr, rfl⟩)
      go_ret
      exact ⟨r, rfl, hr, hBt⟩
theorem pow16_32 (n : Nat) : (65536 : Int) ^ (2 * n) = 4294967296 ^ n := by rw [Int.pow_mul]; rfl
end Go.Proofs.YtkjjfjekpdjboaaDoor
/-
  Rsa: of the reference: Bits (as W42, over E98).
-/
namespace Go.Proofs.YtkjjfjekpdjboaaDoor.D
theorem getD_div (xs : List Int) (i : Nat) (hu : U16s xs) : (val xs).toNat / 2 ^ (16 * i) % 65536 = (xs.getD i 0).toNat := by
  induction i generalizing xs with
  | zero =>
    rw [val_head_tail]
    have h1 := hu.at 0; unfold U16 at h1
    have h2 := val_nonneg hu.tl
    simp only [Nat.mul_zero, Nat.pow_zero, Nat.div_one]; omega
  | succ i ih =>
    have := ih xs.tail hu.tl
    rw [getD_tail] at this
    rw [← this, val_head_tail xs]
    have h1 := hu.at 0; unfold U16 at h1
    have h2 := val_nonneg hu.tl
    rw [Nat.mul_add, Nat.mul_one, Nat.add_comm, Nat.pow_add, ← Nat.div_div_eq_div_mul]
    congr 2; omega
theorem bit_eq (v i : Nat) : v / 2 ^ (16 * (i / 16)) % 65536 / 2 ^ (i % 16) % 2 = v / 2 ^ i % 2 := by
  have e : (65536 : Nat) = 2 ^ (i % 16) * 2 ^ (16 - i % 16) := by rw [← Nat.pow_add, show i % 16 + (16 - i % 16) = 16 by omega]
  have e2 : i = 16 * (i / 16) + i % 16 := by omega
  rw [e, Nat.mod_mul_right_div_self, Nat.div_div_eq_div_mul, ← Nat.pow_add, ← e2]
  have e3 : 2 ^ (16 - i % 16) = 2 * 2 ^ (15 - i % 16) := by rw [Nat.mul_comm, ← Nat.pow_succ]; congr 1; omega
  rw [e3, Nat.mod_mul_right_mod]
end Go.Proofs.YtkjjfjekpdjboaaDoor.D
namespace Go.Proofs.YtkjjfjekpdjboaaDoor
open Go.RowKit
set_option maxRecDepth 20000

theorem bitLen_lt {n k : Nat} (h : n < 2 ^ k) : bitLen n ≤ k := by
  have := bitLen_spec n
  apply Classical.byContradiction; intro hc
  by_cases h0 : n = 0
  · subst h0; simp [bitLen] at hc
  · have h2 := this.2 h0
    have h3 : 2 ^ k ≤ 2 ^ (bitLen n - 1) := Nat.pow_le_pow_right (by decide) (by omega)
    omega
theorem and1_64 (x : Int) (h0 : 0 ≤ x) (h1 : x < 18446744073709551616) : bits BinOp.and .u64 x 1 = x % 2 := by go_bits2
theorem bitLen_eq {n k : Nat} (h : n < 2 ^ (k + 1)) (h1 : n / 2 ^ k % 2 = 1) : bitLen n = k + 1 := by
  have h2 := bitLen_lt h
  have h3 := (bitLen_spec n).1
  have hge : 2 ^ k ≤ n := by
    apply Decidable.byContradiction; intro hc
    rw [Nat.div_eq_of_lt (by omega)] at h1; simp at h1
  apply Decidable.byContradiction; intro hc
  have : 2 ^ bitLen n ≤ 2 ^ k := Nat.pow_le_pow_right (by decide) (by omega)
  omega
theorem lt_half {n k : Nat} (h : n < 2 ^ (k + 1)) (h1 : n / 2 ^ k % 2 = 0) : n < 2 ^ k := by
  have h2 : n / 2 ^ k < 2 := Nat.div_lt_of_lt_mul (by rw [Nat.pow_succ] at h; exact h)
  have h3 : n / 2 ^ k = 0 := by
    generalize n / 2 ^ k = t at h1 h2
    omega
  rcases Nat.div_eq_zero_iff.1 h3 with h4 | h4
  · have : 0 < 2 ^ k := Nat.pow_pos (by decide)
    omega
  · exact h4

set_option maxHeartbeats 2000000 in
theorem RBits_any {w : World} (v : Value) (X : List Int) (hX : Sl .u32 w v X) (uX : U32s X) (hl : X.length ≤ 268435456) (N : Int) (hN : val X = N) :
    Calls Tryd.prog 22 #[v] w fun e w' => e = .returned (.int .i64 (bitLen N.toNat)) ∧ Below w.heap.size w w' := by
  have nN : 0 ≤ N := hN ▸ val_nonneg uX
  have bX := val_lt uX
  rw [hN] at bX
  obtain ⟨Ds, hDs⟩ : ∃ Ds, D.lim N.toNat = Ds := ⟨_, rfl⟩
  have dN : Ds.length ≤ 2 * X.length := by rw [← hDs]; exact D.lim_fits nN (by rw [pow16_32]; exact bX)
  have uD : D.U16s Ds := hDs ▸ D.lim_u16 _
  have vD : D.val Ds = N := by rw [← hDs]; exact D.val_limI nN
  have HX : Hid (val X = N) := hN
  have HD : Hid (D.lim N.toNat = Ds) := hDs
  have HV : Hid (D.U16s Ds ∧ D.val Ds = N) := ⟨uD, vD⟩
  have HST : Hid (N.toNat < 2 ^ (16 * Ds.length)) := by
    have h1 := D.val_lt uD
    rw [vD] at h1
    have h2 : ((N.toNat : Nat) : Int) < ((2 ^ (16 * Ds.length) : Nat) : Int) := by
      rw [Int.toNat_of_nonneg nN, Int.natCast_pow, Int.pow_mul]; exact h1
    exact Int.ofNat_lt.1 h2
  have hBt : Below w.heap.size w w := Below.refl _ _
  clear hN bX nN hDs uD vD
  go_enter Tryd.func22, Tryd.ntmps22
  go_wp2_with (go_at_call 36; refine (Digits_any _ X hX uX (by omega) N HX.out).mono ?_; rintro e w1 ⟨p, rfl, hp, hB⟩; rw [HD.out] at hp; replace hBt := grow0 hBt hB; obtain ⟨ap, cp, hvp, _⟩ := hp.len; subst hvp)
  go_loop [4] (fun i => ∃ k : Nat, i = .int .i64 k ∧ k ≤ 16 * Ds.length ∧ Hid (N.toNat < 2 ^ k)) (fun i => (intOf i).toNat)
  case atStart => exact ⟨16 * Ds.length, by go_num, Nat.le_refl _, HST.out⟩
  case round =>
    clear HST
    obtain ⟨k, rfl, hk, HK⟩ := hrel
    cases k with
    | zero =>
      have HZ : Hid (bitLen N.toNat = 0) := by
        have h1 := HK.out
        have h2 : N.toNat = 0 := by simpa using h1
        rw [h2]; rfl
      clear HK
      go_wp2
      go_ret
      exact ⟨by rw [HZ.out]; rfl, hBt⟩
    | succ m =>
      obtain ⟨b, off, ha, hb, hrd⟩ : ∃ b off, ap = some ⟨b, off, none⟩ ∧ b < w1.heap.size ∧ Rd .u64 w1 b off Ds := by
        obtain ⟨a', c', h1, _, h2⟩ := id hp
        cases h1
        rcases h2 with rfl | ⟨b, off, rfl, hb, hr⟩
        · simp at hk
        · exact ⟨b, off, rfl, hb, hr⟩
      subst ha
      obtain ⟨q, hq⟩ : ∃ q, m / 16 = q := ⟨_, rfl⟩
      obtain ⟨s, hs⟩ : ∃ s, m % 16 = s := ⟨_, rfl⟩
      obtain ⟨y, hy⟩ : ∃ y, Ds.getD q 0 = y := ⟨_, rfl⟩
      have uy : D.U16 y := hy ▸ HV.out.1.at _
      obtain ⟨uy1, uy2⟩ := uy
      have hcy : w1.cell? ⟨b, off + q, none⟩ = some (.int .u64 y) := by rw [hrd q (by omega), hy]
      have HB : Hid (N.toNat / 2 ^ m % 2 = y.toNat / 2 ^ s % 2) := by
        show N.toNat / 2 ^ m % 2 = y.toNat / 2 ^ s % 2
        rw [← D.bit_eq, hq, hs, ← HV.out.2, D.getD_div Ds q HV.out.1, hy]
      have hmi : (m : Int) / 16 = q := by omega
      have hsi : (m : Int) % 16 = s := by omega
      have hs16 : s < 16 := by omega
      have hqD : q < Ds.length := by omega
      have hp2 : 0 < (2 : Int) ^ s := Int.pow_pos (by decide)
      have hd0 : 0 ≤ y / 2 ^ s := Int.ediv_nonneg uy1 (Int.le_of_lt hp2)
      have hd1 : y / 2 ^ s < 18446744073709551616 := by have := Int.ediv_le_self (2 ^ s) uy1; omega
      have hand := and1_64 (y / 2 ^ s) hd0 hd1
      have hcast : ((y.toNat / 2 ^ s % 2 : Nat) : Int) = y / 2 ^ s % 2 := by
        obtain ⟨n, rfl⟩ := Int.eq_ofNat_of_zero_le uy1
        simp
      obtain ⟨bt, hbt⟩ : ∃ bt, y / 2 ^ s % 2 = bt := ⟨_, rfl⟩
      rw [hbt] at hand hcast
      have hb01 : bt = 0 ∨ bt = 1 := by omega
      have HB2 : Hid (N.toNat / 2 ^ m % 2 = bt.toNat) := by
        show N.toNat / 2 ^ m % 2 = bt.toNat
        rw [HB.out]; omega
      clear hq hs hy hbt hcast HB hrd
      rcases hb01 with rfl | rfl
      · go_wp2
        go_round
        case rel => exact ⟨m, by go_num, by omega, lt_half HK.out HB2.out⟩
        case measure => simp [intOf]
      · have HR : Hid (bitLen N.toNat = m + 1) := bitLen_eq HK.out HB2.out
        go_wp2
        go_ret
        exact ⟨by rw [HR.out]; rfl, hBt⟩
end Go.Proofs.YtkjjfjekpdjboaaDoor
/-
  Rsa: the reference's Check and Size.
-/
namespace Go.Proofs.YtkjjfjekpdjboaaDoor
open Go.RowKit
set_option maxRecDepth 20000
set_option maxHeartbeats 4000000 in
theorem RCheck_any {w : World} (a a' : Option Addr) (n c n' c' : Nat) (ns es : List Int) (hn : Sl .u32 w (.slice a n c) ns) (un : U32s ns) (ln : ns.length = n) (he : Sl .u32 w (.slice a' n' c') es) (ue : U32s es) (le : es.length = n') (hb : n ≤ 600) (hb' : n' ≤ 600) :
    Calls Tryd.prog 9 #[.agg #[.slice a n c, .slice a' n' c']] w fun e w' => e = .returned (.int .i64 (if keyOk ns es then 0 else 80)) ∧ Below w.heap.size w w' := by
  obtain ⟨B, hB⟩ : ∃ B, bts ns = B := ⟨_, rfl⟩
  obtain ⟨C, hC⟩ : ∃ C, bts es = C := ⟨_, rfl⟩
  have HM : Hid (∀ W, Below w.heap.size w W → Calls Tryd.prog 22 #[.slice a n c] W fun e w'' => e = .returned (.int .i64 B) ∧ Below W.heap.size W w'') := fun W hw =>
    (RBits_any _ ns (below_sl hw hn) un (by omega) _ rfl).mono fun _ _ h => ⟨by rw [h.1, ← hB]; rfl, h.2⟩
  have HE : Hid (∀ W, Below w.heap.size w W → Calls Tryd.prog 22 #[.slice a' n' c'] W fun e w'' => e = .returned (.int .i64 C) ∧ Below W.heap.size W w'') := fun W hw =>
    (RBits_any _ es (below_sl hw he) ue (by omega) _ rfl).mono fun _ _ h => ⟨by rw [h.1, ← hC]; rfl, h.2⟩
  obtain ⟨R, hR⟩ : ∃ R : Int, (if keyOk ns es then 0 else 80) = R := ⟨_, rfl⟩
  rw [hR]
  obtain ⟨x, hx⟩ : ∃ x, ns.getD 0 0 = x := ⟨_, rfl⟩
  obtain ⟨y, hy⟩ : ∃ y, es.getD 0 0 = y := ⟨_, rfl⟩
  have hk : keyOk ns es = decide ((n ≤ 256 ∧ 512 ≤ B ∧ x % 2 = 1) ∧ n' ≤ 256 ∧ 2 ≤ C ∧ C ≤ 64 ∧ y % 2 = 1) := by
    unfold keyOk modOk expOk; rw [ln, le, hB, hC, hx, hy]; simp only [Bool.decide_and, Bool.and_assoc]
  rw [hk] at hR
  have HR : Hid ((if decide ((n ≤ 256 ∧ 512 ≤ B ∧ x % 2 = 1) ∧ n' ≤ 256 ∧ 2 ≤ C ∧ C ≤ 64 ∧ y % 2 = 1) then (0 : Int) else 80) = R) := hR
  have ux : 0 ≤ x ∧ x < 4294967296 := hx ▸ un.at 0
  have uy : 0 ≤ y ∧ y < 4294967296 := hy ▸ ue.at 0
  have pN : 512 ≤ B → 0 < n := fun h => Nat.pos_of_ne_zero fun h0 => by
    have : ns = [] := List.eq_nil_of_length_eq_zero (by omega)
    rw [this, bts_nil] at hB; omega
  have pE : 2 ≤ C → 0 < n' := fun h => Nat.pos_of_ne_zero fun h0 => by
    have : es = [] := List.eq_nil_of_length_eq_zero (by omega)
    rw [this, bts_nil] at hC; omega
  have HN : Hid (0 < n → ∃ b off, a = some ⟨b, off, none⟩ ∧ ∀ W : World, Below w.heap.size w W → W.cell? ⟨b, off, none⟩ = some (.int .u32 x)) := fun h0 => by
    obtain ⟨b, off, h1, h2, h3⟩ := sl_cell0 hn ln h0
    exact ⟨b, off, h1, fun W hW => by rw [hW.cell (p := ⟨b, off, none⟩) h2, h3, hx]⟩
  have HX : Hid (0 < n' → ∃ b off, a' = some ⟨b, off, none⟩ ∧ ∀ W : World, Below w.heap.size w W → W.cell? ⟨b, off, none⟩ = some (.int .u32 y)) := fun h0 => by
    obtain ⟨b, off, h1, h2, h3⟩ := sl_cell0 he le h0
    exact ⟨b, off, h1, fun W hW => by rw [hW.cell (p := ⟨b, off, none⟩) h2, h3, hy]⟩
  clear hn un ln he ue le hR hk hx hy hB hC
  go_enter Tryd.func9, Tryd.ntmps9
  go_upto_region 1 with (refine Sh.wpList_boxR rfl 24 (.tmp 0) rfl #[.slice a n c, .slice a' n' c'] rfl ?_)
  refine Sh.wp_gen (fun W => Blk 24 W w.heap.size [.slice a n c, .slice a' n' c'] ∧ Below w.heap.size w W) ⟨Blk.new _ w _, al1 _⟩ ?_
  rintro W2 ⟨hB, hBw⟩
  have hc0 : W2.cell? ⟨w.heap.size, 0, none⟩ = some (.slice a n c) := hB.cell 0
  have hc1 : W2.cell? ⟨w.heap.size, 1, none⟩ = some (.slice a' n' c') := hB.cell 1
  have H2 : Hid (Below w.heap.size w W2 ∧ ∀ W3, Below W2.heap.size W2 W3 → W3.cell? ⟨w.heap.size, 0, none⟩ = some (.slice a n c) ∧ W3.cell? ⟨w.heap.size, 1, none⟩ = some (.slice a' n' c') ∧ Below w.heap.size w W3) := ⟨hBw, fun W3 h3 => ⟨(below_blk h3 hB.lt hB).cell 0, (below_blk h3 hB.lt hB).cell 1, below_via hBw h3 (Nat.le_refl _)⟩⟩
  clear hB hBw
  by_cases h1 : ¬ n ≤ 256
  · have d1 : decide ((256 : Int) < (n : Int)) = true := by simp; omega
    go_wp2
    go_ret
    exact ⟨by rw [← HR.out, if_neg (by simp; omega)]; rfl, H2.out.1⟩
  have h1 := Decidable.not_not.1 h1
  have d1 : decide ((256 : Int) < (n : Int)) = false := by simp; omega
  by_cases h2 : ¬ n' ≤ 256
  · have d2 : decide ((256 : Int) < (n' : Int)) = true := by simp; omega
    go_wp2
    go_ret
    exact ⟨by rw [← HR.out, if_neg (by simp; omega)]; rfl, H2.out.1⟩
  have h2 := Decidable.not_not.1 h2
  have d2 : decide ((256 : Int) < (n' : Int)) = false := by simp; omega
  by_cases h3 : ¬ 512 ≤ B
  · have d3 : decide ((B : Int) < 512) = true := by simp; omega
    go_wp2_with (go_at_call 22; refine (HM.out _ H2.out.1).mono ?_; rintro e w3 ⟨rfl, hb3⟩; have H3 : Hid (Below w.heap.size w w3) := (H2.out.2 w3 hb3).2.2; clear hb3 hc0 hc1)
    go_ret
    exact ⟨by rw [← HR.out, if_neg (by simp; omega)]; rfl, H3.out⟩
  have h3 := Decidable.not_not.1 h3
  have d3 : decide ((B : Int) < 512) = false := by simp; omega
  by_cases h4 : ¬ 2 ≤ C
  · have d4 : decide ((C : Int) < 2) = true := by simp; omega
    go_wp2_with fail
    refine (HM.out _ H2.out.1).mono ?_
    rintro e w3 ⟨rfl, hb3⟩
    have hd1 := (H2.out.2 w3 hb3).2.1
    have H3 : Hid (Below w.heap.size w w3) := (H2.out.2 w3 hb3).2.2
    clear hb3 hc0 hc1
    go_wp2_with (go_at_call 22; refine (HE.out _ H3.out).mono ?_; rintro e w4 ⟨rfl, hb4⟩; have H4 : Hid (Below w.heap.size w w4) := below_via H3.out hb4 (Nat.le_refl _); clear hb4 hd1)
    go_ret
    exact ⟨by rw [← HR.out, if_neg (by simp; omega)]; rfl, H4.out⟩
  have h4 := Decidable.not_not.1 h4
  have d4 : decide ((C : Int) < 2) = false := by simp; omega
  obtain ⟨b, off, rfl, hN⟩ := HN.out (pN h3)
  obtain ⟨b', off', rfl, hX⟩ := HX.out (pE h4)
  have h0I : (0 : Int) < (n : Int) := by have := pN h3; omega
  have h0J : (0 : Int) < (n' : Int) := by have := pE h4; omega
  have HN' : Hid (∀ W : World, Below w.heap.size w W → W.cell? ⟨b, off, none⟩ = some (.int .u32 x)) := hN
  have HX' : Hid (∀ W : World, Below w.heap.size w W → W.cell? ⟨b', off', none⟩ = some (.int .u32 y)) := hX
  clear hN hX HN HX pN pE
  go_wp2_with fail
  refine (HM.out _ H2.out.1).mono ?_
  rintro e w3 ⟨rfl, hb3⟩
  have hd1 := (H2.out.2 w3 hb3).2.1
  have H3 : Hid (Below w.heap.size w w3 ∧ Below W2.heap.size W2 w3) := ⟨(H2.out.2 w3 hb3).2.2, hb3⟩
  clear hb3 hc0 hc1
  go_wp2_with fail
  refine (HE.out _ H3.out.1).mono ?_
  rintro e w4 ⟨rfl, hb4⟩
  have he1 := (H2.out.2 w4 (below_via H3.out.2 hb4 (Nat.le_refl _))).2.1
  have H4 : Hid (Below w.heap.size w w4 ∧ Below W2.heap.size W2 w4) := ⟨below_via H3.out.1 hb4 (Nat.le_refl _), below_via H3.out.2 hb4 (Nat.le_refl _)⟩
  clear hb4 hd1
  by_cases h5 : ¬ C ≤ 64
  · have d5 : decide ((64 : Int) < (C : Int)) = true := by simp; omega
    go_wp2_with (go_at_call 22; refine (HE.out _ H4.out.1).mono ?_; rintro e w5 ⟨rfl, hb5⟩; have H5 : Hid (Below w.heap.size w w5) := below_via H4.out.1 hb5 (Nat.le_refl _); clear hb5 he1)
    go_ret
    exact ⟨by rw [← HR.out, if_neg (by simp; omega)]; rfl, H5.out⟩
  have h5 := Decidable.not_not.1 h5
  have d5 : decide ((64 : Int) < (C : Int)) = false := by simp; omega
  go_wp2_with fail
  refine (HE.out _ H4.out.1).mono ?_
  rintro e w5 ⟨rfl, hb5⟩
  have hf0 := (H2.out.2 w5 (below_via H4.out.2 hb5 (Nat.le_refl _))).1
  have hf1 := (H2.out.2 w5 (below_via H4.out.2 hb5 (Nat.le_refl _))).2.1
  have H5 : Hid (Below w.heap.size w w5) := below_via H4.out.1 hb5 (Nat.le_refl _)
  have hgx := HN'.out w5 H5.out
  have hgy := HX'.out w5 H5.out
  clear hb5 he1
  by_cases h6 : ¬ x % 2 = 1
  · have d6 : (x % 2 == 0) = true := by simp; omega
    go_wp2
    go_ret
    exact ⟨by rw [← HR.out, if_neg (by simp; omega)]; rfl, H5.out⟩
  have h6 := Decidable.not_not.1 h6
  have d6 : (x % 2 == 0) = false := by simp; omega
  by_cases h7 : ¬ y % 2 = 1
  · have d7 : (y % 2 == 0) = true := by simp; omega
    go_wp2
    go_ret
    exact ⟨by rw [← HR.out, if_neg (by simp; omega)]; rfl, H5.out⟩
  have h7 := Decidable.not_not.1 h7
  have d7 : (y % 2 == 0) = false := by simp; omega
  go_wp2
  go_ret
  exact ⟨by rw [← HR.out, if_pos (by simp; omega)]; rfl, H5.out⟩
end Go.Proofs.YtkjjfjekpdjboaaDoor
