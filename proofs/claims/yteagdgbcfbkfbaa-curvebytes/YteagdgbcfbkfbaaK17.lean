/-
  Lists of digits of 16 bits: their values, the digits of a number; limbs cut into digits, digits put together as limbs. No Go text in sight.
-/
import Derived.Test.YteagdgbcfbkfbaaK16
namespace Go.Proofs.Yteagdgbcfbkfbaa.D
/-! ### numbers as lists of digits -/
def U16 (x : Int) : Prop := 0 ≤ x ∧ x < 65536
def U16s (xs : List Int) : Prop := ∀ x ∈ xs, U16 x
def val : List Int → Int
  | [] => 0
  | x :: xs => x + 65536 * val xs
def sig : List Int → Nat
  | [] => 0
  | x :: xs => if sig xs = 0 then (if x = 0 then 0 else 1) else sig xs + 1
def limF : Nat → Nat → List Int
  | 0, _ => []
  | f + 1, n => if n = 0 then [] else ((n % 65536 : Nat) : Int) :: limF f (n / 65536)
/-- The digits of a number, the lowest first. -/
def lim (n : Nat) : List Int := limF n n

theorem U16s.at {xs : List Int} (h : U16s xs) (i : Nat) : U16 (xs.getD i 0) := by
  by_cases hi : i < xs.length
  · simp [hi]; exact h _ (List.getElem_mem hi)
  · simp [List.getD, List.getElem?_eq_none (Nat.le_of_not_lt hi), U16]
theorem U16s.nil : U16s [] := by intro x hx; simp at hx
theorem U16s.cons {x : Int} {xs : List Int} (h : U16 x) (hs : U16s xs) : U16s (x :: xs) := by
  intro y hy; rcases List.mem_cons.1 hy with rfl | hy
  · exact h
  · exact hs y hy
theorem U16s.head {x : Int} {xs : List Int} (h : U16s (x :: xs)) : U16 x := h x (by simp)
theorem U16s.tail {x : Int} {xs : List Int} (h : U16s (x :: xs)) : U16s xs := fun y hy => h y (by simp [hy])
theorem U16s.take {xs : List Int} (h : U16s xs) (n : Nat) : U16s (xs.take n) := fun y hy => h y (List.mem_of_mem_take hy)
theorem U16s.drop {xs : List Int} (h : U16s xs) (n : Nat) : U16s (xs.drop n) := fun y hy => h y (List.mem_of_mem_drop hy)
theorem U16s.append {xs ys : List Int} (h : U16s xs) (k : U16s ys) : U16s (xs ++ ys) := by
  intro y hy; rcases List.mem_append.1 hy with hy | hy
  · exact h y hy
  · exact k y hy
theorem U16s.set {xs : List Int} (h : U16s xs) (i : Nat) {x : Int} (hx : U16 x) : U16s (xs.set i x) := by
  intro y hy; rcases List.mem_or_eq_of_mem_set hy with hy | rfl
  · exact h y hy
  · exact hx
theorem U16s.zeros (n : Nat) : U16s (List.replicate n 0) := by
  intro y hy; rw [(List.mem_replicate.1 hy).2]; exact ⟨by decide, by decide⟩

theorem val_nonneg {xs : List Int} (h : U16s xs) : 0 ≤ val xs := by
  induction xs with
  | nil => simp [val]
  | cons x xs ih => have := ih h.tail; have := h.head.1; simp only [val]; omega
theorem pow_succ16 (n : Nat) : (65536 : Int) ^ (n + 1) = 65536 * 65536 ^ n := by rw [Int.pow_succ, Int.mul_comm]
theorem pow_pos16 (n : Nat) : (0 : Int) < 65536 ^ n := Int.pow_pos (by decide)
theorem val_lt {xs : List Int} (h : U16s xs) : val xs < 65536 ^ xs.length := by
  induction xs with
  | nil => simp [val]
  | cons x xs ih => have := ih h.tail; have h1 := h.head; unfold U16 at h1; simp only [val, List.length_cons, pow_succ16]; omega
theorem val_append (xs ys : List Int) : val (xs ++ ys) = val xs + 65536 ^ xs.length * val ys := by
  induction xs with
  | nil => simp [val]
  | cons x xs ih => simp only [List.cons_append, val, ih, List.length_cons, pow_succ16, Int.mul_add, Int.mul_assoc]; omega
theorem val_zeros (n : Nat) : val (List.replicate n 0) = 0 := by
  induction n with
  | zero => rfl
  | succ n ih => simp [List.replicate_succ, val, ih]
theorem sig_le (xs : List Int) : sig xs ≤ xs.length := by
  induction xs with
  | nil => simp [sig]
  | cons x xs ih => simp only [sig, List.length_cons]; split <;> (try split) <;> omega
theorem val_of_sig0 {xs : List Int} (h : sig xs = 0) : val xs = 0 := by
  induction xs with
  | nil => rfl
  | cons x xs ih =>
    simp only [sig] at h
    split at h
    · split at h
      · rename_i h1 h2; simp [val, h2, ih h1]
      · omega
    · omega
theorem sig0_of_val {xs : List Int} (hu : U16s xs) (h : val xs = 0) : sig xs = 0 := by
  induction xs with
  | nil => rfl
  | cons x xs ih =>
    have h1 := val_nonneg hu.tail; have h2 := hu.head; unfold U16 at h2
    simp only [val] at h
    have hv : val xs = 0 := by omega
    have hx : x = 0 := by omega
    simp [sig, ih hu.tail hv, hx]
theorem val_take_sig (xs : List Int) : val (xs.take (sig xs)) = val xs := by
  induction xs with
  | nil => rfl
  | cons x xs ih =>
    simp only [sig]
    split
    · rename_i h
      split
      · rename_i hx; simp [val, hx, val_of_sig0 h]
      · simp [val, val_of_sig0 h]
    · simp [val, ih]
/-- What 'length' finds is 'sig'. -/
theorem sig_eq {xs : List Int} {k : Nat} (hk : k ≤ xs.length) (h0 : ∀ j, k ≤ j → j < xs.length → xs.getD j 0 = 0) (h1 : k = 0 ∨ xs.getD (k - 1) 0 ≠ 0) : sig xs = k := by
  induction xs generalizing k with
  | nil => simp at hk; simp [sig, hk]
  | cons x xs ih =>
    cases k with
    | zero =>
      have hs : sig xs = 0 := ih (k := 0) (Nat.zero_le _) (fun j _ hj => by simpa using h0 (j + 1) (Nat.zero_le _) (by simpa using hj)) (.inl rfl)
      have hx : x = 0 := by simpa using h0 0 (Nat.le_refl _) (by simp)
      simp [sig, hs, hx]
    | succ k =>
      have hkl : k ≤ xs.length := by simpa using hk
      have hz : ∀ j, k ≤ j → j < xs.length → xs.getD j 0 = 0 := fun j hj hl => by simpa using h0 (j + 1) (by omega) (by simpa using hl)
      cases k with
      | zero =>
        have hs : sig xs = 0 := ih (k := 0) (Nat.zero_le _) hz (.inl rfl)
        have hx : x ≠ 0 := by simpa using h1
        simp [sig, hs, hx]
      | succ k =>
        have hs : sig xs = k + 1 := ih hkl hz (.inr (by simpa using h1))
        simp [sig, hs]
theorem sig_last {xs : List Int} (h : 0 < sig xs) : xs.getD (sig xs - 1) 0 ≠ 0 := by
  induction xs with
  | nil => simp [sig] at h
  | cons x xs ih =>
    simp only [sig] at h ⊢
    split
    · rename_i h1
      split
      · rename_i h2; simp [h1, h2] at h
      · rename_i h2; simpa using h2
    · rename_i h1
      have := ih (by omega)
      obtain ⟨m, hm⟩ : ∃ m, sig xs = m + 1 := ⟨sig xs - 1, by omega⟩
      rw [hm] at this ⊢
      simpa using this
theorem sig_take {xs : List Int} : sig (xs.take (sig xs)) = sig xs := by
  have hl := sig_le xs
  refine sig_eq (by simp; omega) (fun j h1 h2 => by simp at h2; omega) ?_
  by_cases h : sig xs = 0
  · exact .inl h
  · refine .inr ?_
    have := sig_last (xs := xs) (by omega)
    rw [List.getD_eq_getElem?_getD, List.getElem?_take, if_pos (by omega), ← List.getD_eq_getElem?_getD]; exact this
theorem limF_fuel (f : Nat) : ∀ g n, n ≤ f → n ≤ g → limF f n = limF g n := by
  induction f with
  | zero =>
    intro g n h1 _
    have : n = 0 := by omega
    subst this
    cases g <;> simp [limF]
  | succ f ih =>
    intro g n h1 h2
    cases g with
    | zero =>
      have : n = 0 := by omega
      subst this; simp [limF]
    | succ g =>
      simp only [limF]
      split
      · rfl
      · rw [ih g (n / 65536) (by omega) (by omega)]
theorem lim_zero : lim 0 = [] := rfl
theorem lim_pos {n : Nat} (h : n ≠ 0) : lim n = ((n % 65536 : Nat) : Int) :: lim (n / 65536) := by
  obtain ⟨m, rfl⟩ : ∃ m, n = m + 1 := ⟨n - 1, by omega⟩
  unfold lim
  rw [limF, if_neg h, limF_fuel m ((m + 1) / 65536) ((m + 1) / 65536) (by omega) (Nat.le_refl _)]
theorem lim_u16 (n : Nat) : U16s (lim n) := by
  induction n using Nat.strongRecOn with
  | _ n ih =>
    by_cases h : n = 0
    · subst h; rw [lim_zero]; exact U16s.nil
    · rw [lim_pos h]; exact U16s.cons ⟨by omega, by omega⟩ (ih _ (by omega))
theorem val_lim (n : Nat) : val (lim n) = n := by
  induction n using Nat.strongRecOn with
  | _ n ih =>
    by_cases h : n = 0
    · subst h; rw [lim_zero]; rfl
    · rw [lim_pos h]; simp only [val]; rw [ih _ (by omega)]; omega
theorem sig_lim (n : Nat) : sig (lim n) = (lim n).length := by
  induction n using Nat.strongRecOn with
  | _ n ih =>
    by_cases h : n = 0
    · subst h; rw [lim_zero]; rfl
    · rw [lim_pos h]
      have h1 := ih (n / 65536) (by omega)
      simp only [sig, List.length_cons, h1]
      split
      · rename_i h0
        have h2 : lim (n / 65536) = [] := List.eq_nil_of_length_eq_zero h0
        have h3 := val_lim (n / 65536); rw [h2] at h3; simp [val] at h3
        split <;> simp [h2] <;> omega
      · rfl
/-- A list without a digit 0 at its end is told by its value. -/
theorem lim_val {xs : List Int} (hu : U16s xs) (h : sig xs = xs.length) : lim (val xs).toNat = xs := by
  induction xs with
  | nil => simp [val, lim_zero]
  | cons x xs ih =>
    have hx := hu.head; unfold U16 at hx
    have hv := val_nonneg hu.tail
    have h2 : sig xs = xs.length := by
      simp only [sig, List.length_cons] at h
      split at h
      · rename_i h0; split at h <;> omega
      · omega
    have hne : (val (x :: xs)).toNat ≠ 0 := by
      intro h0
      have : val (x :: xs) = 0 := by have := val_nonneg hu; omega
      have := sig0_of_val hu this
      simp at h; omega
    rw [lim_pos hne]
    have e1 : (val (x :: xs)).toNat % 65536 = x.toNat := by simp only [val]; omega
    have e2 : (val (x :: xs)).toNat / 65536 = (val xs).toNat := by simp only [val]; omega
    rw [e1, e2, ih hu.tail h2]; congr 1; omega
theorem take_sig_lim {xs : List Int} (hu : U16s xs) : xs.take (sig xs) = lim (val xs).toNat := by
  have := lim_val (hu.take (sig xs)) (by rw [sig_take]; simp; have := sig_le xs; omega)
  rw [val_take_sig] at this; exact this.symm
theorem lim_len_le {n : Nat} {k : Nat} (h : (n : Int) < 65536 ^ k) : (lim n).length ≤ k := by
  induction k generalizing n with
  | zero => have : n = 0 := by simp at h; omega
            subst this; simp [lim_zero]
  | succ k ih =>
    by_cases h0 : n = 0
    · subst h0; simp [lim_zero]
    · rw [lim_pos h0, List.length_cons]
      have : ((n / 65536 : Nat) : Int) < 65536 ^ k := by rw [pow_succ16] at h; omega
      have := ih this; omega

theorem pow_mono {i j : Nat} (h : i ≤ j) : (65536 : Int) ^ i ≤ 65536 ^ j := by
  induction j with
  | zero => have : i = 0 := by omega
            subst this; exact Int.le_refl _
  | succ j ih =>
    by_cases hj : i = j + 1
    · subst hj; exact Int.le_refl _
    · have h1 := ih (by omega); have h2 := pow_pos16 j; rw [pow_succ16]; omega
theorem lim_fits {n : Int} {k : Nat} (h0 : 0 ≤ n) (h : n < 65536 ^ k) : (lim n.toNat).length ≤ k := lim_len_le (by rw [Int.toNat_of_nonneg h0]; exact h)
theorem val_limI {n : Int} (h0 : 0 ≤ n) : val (lim n.toNat) = n := by rw [val_lim, Int.toNat_of_nonneg h0]
theorem len_val {n : Nat} : ((lim n).length = 0) ↔ n = 0 := by
  constructor
  · intro h
    have h1 := val_lim n
    rw [List.eq_nil_of_length_eq_zero h] at h1; simp [val] at h1; omega
  · rintro rfl; rfl
/-- A number of k digits, the highest of which is not 0, is at least 65536 ^ (k - 1). -/
theorem lim_ge {n : Nat} {k : Nat} (h : (lim n).length = k + 1) : (65536 : Int) ^ k ≤ n := by
  apply Decidable.byContradiction
  intro hc
  have := lim_len_le (n := n) (k := k) (by omega)
  omega
theorem sig_tail {x : Int} {xs : List Int} (h : sig (x :: xs) = (x :: xs).length) : sig xs = xs.length := by
  simp only [sig, List.length_cons] at h
  split at h
  · rename_i h0; split at h <;> omega
  · omega
theorem val_snoc (xs : List Int) (x : Int) : val (xs ++ [x]) = val xs + 65536 ^ xs.length * x := by rw [val_append]; simp [val]
theorem take_snoc (xs : List Int) {i : Nat} (h : i < xs.length) : xs.take (i + 1) = xs.take i ++ [xs.getD i 0] := by
  rw [List.take_add_one, List.getElem?_eq_getElem h]; simp [List.getD, List.getElem?_eq_getElem h]
theorem val_take_succ (xs : List Int) (i : Nat) : val (xs.take (i + 1)) = val (xs.take i) + 65536 ^ i * xs.getD i 0 := by
  by_cases h : i < xs.length
  · rw [take_snoc xs h, val_snoc]; rw [List.length_take, Nat.min_eq_left (by omega)]
  · rw [List.take_of_length_le (by omega), List.take_of_length_le (by omega)]; simp [List.getD, List.getElem?_eq_none (Nat.le_of_not_lt h)]
theorem val_ext : ∀ (xs ys : List Int), (∀ j, xs.getD j 0 = ys.getD j 0) → val xs = val ys
  | [], [], _ => rfl
  | x :: xs, [], h => by
    have h0 := h 0; have := val_ext xs [] (fun j => by simpa using h (j + 1)); simp at h0; simp [val] at this ⊢; omega
  | [], y :: ys, h => by
    have h0 := h 0; have := val_ext [] ys (fun j => by simpa using h (j + 1)); simp at h0; simp [val] at this ⊢; omega
  | x :: xs, y :: ys, h => by
    have h0 := h 0; have := val_ext xs ys (fun j => by simpa using h (j + 1)); simp at h0; simp [val]; omega
theorem getD_tail (xs : List Int) (j : Nat) : xs.tail.getD j 0 = xs.getD (j + 1) 0 := by cases xs <;> simp
theorem val_head_tail (xs : List Int) : val xs = xs.getD 0 0 + 65536 * val xs.tail := by cases xs <;> simp [val]
theorem U16s.tl {xs : List Int} (h : U16s xs) : U16s xs.tail := fun y hy => h y (List.mem_of_mem_tail hy)
theorem val_lt_of (i : Nat) : ∀ (xs ys : List Int), U16s xs → U16s ys → (∀ j, i < j → xs.getD j 0 = ys.getD j 0) → xs.getD i 0 < ys.getD i 0 → val xs < val ys := by
  induction i with
  | zero =>
    intro xs ys ux uy h hlt
    have := val_ext xs.tail ys.tail (fun j => by rw [getD_tail, getD_tail]; exact h (j + 1) (by omega))
    rw [val_head_tail xs, val_head_tail ys]; omega
  | succ i ih =>
    intro xs ys ux uy h hlt
    have := ih xs.tail ys.tail ux.tl uy.tl (fun j hj => by rw [getD_tail, getD_tail]; exact h (j + 1) (by omega)) (by rw [getD_tail, getD_tail]; exact hlt)
    have h1 := ux.at 0; have h2 := uy.at 0
    unfold U16 at h1 h2
    rw [val_head_tail xs, val_head_tail ys]; omega
end Go.Proofs.Yteagdgbcfbkfbaa.D
namespace Go.Proofs.Yteagdgbcfbkfbaa
def split : List Int → List Int
  | [] => []
  | x :: xs => x % 65536 :: x / 65536 :: split xs
theorem split_length (xs : List Int) : (split xs).length = 2 * xs.length := by
  induction xs with
  | nil => rfl
  | cons x xs ih => simp only [split, List.length_cons, ih]; omega
theorem split_val (xs : List Int) : D.val (split xs) = val xs := by
  induction xs with
  | nil => rfl
  | cons x xs ih => simp only [split, D.val, val, ih]; omega
theorem split_u16 {xs : List Int} (h : U32s xs) : D.U16s (split xs) := by
  induction xs with
  | nil => exact D.U16s.nil
  | cons x xs ih =>
    have hx := h.head; unfold U32 at hx
    exact D.U16s.cons ⟨by omega, by omega⟩ (D.U16s.cons ⟨by omega, by omega⟩ (ih h.tail))
theorem split_append (xs ys : List Int) : split (xs ++ ys) = split xs ++ split ys := by
  induction xs with
  | nil => rfl
  | cons x xs ih => simp only [List.cons_append, split, ih]
theorem split_snoc (xs : List Int) {i : Nat} (h : i < xs.length) : split (xs.take (i + 1)) = split (xs.take i) ++ [xs.getD i 0 % 65536, xs.getD i 0 / 65536] := by
  rw [D.take_snoc xs h, split_append]; rfl
def join : List Int → List Int
  | [] => []
  | [d] => [d]
  | d :: e :: r => (d + 65536 * e) :: join r
theorem join_val (n : Nat) : ∀ ds : List Int, ds.length ≤ n → val (join ds) = D.val ds := by
  induction n with
  | zero => intro ds h; have : ds = [] := List.eq_nil_of_length_eq_zero (by omega); subst this; rfl
  | succ n ih =>
    intro ds h
    match ds with
    | [] => rfl
    | [d] => simp [join, val, D.val]
    | d :: e :: r => simp only [join, val, D.val]; rw [ih r (by simp at h; omega)]; omega
theorem join_u32 (n : Nat) : ∀ ds : List Int, ds.length ≤ n → D.U16s ds → U32s (join ds) := by
  induction n with
  | zero => intro ds h _; have : ds = [] := List.eq_nil_of_length_eq_zero (by omega); subst this; exact U32s.nil
  | succ n ih =>
    intro ds h hu
    match ds with
    | [] => exact U32s.nil
    | [d] => have := hu.head; unfold D.U16 at this; exact U32s.cons ⟨by omega, by omega⟩ U32s.nil
    | d :: e :: r =>
      have h1 := hu.head; have h2 := hu.tail.head; unfold D.U16 at h1 h2
      exact U32s.cons ⟨by omega, by omega⟩ (ih r (by simp at h; omega) hu.tail.tail)
theorem join_sig (n : Nat) : ∀ ds : List Int, ds.length ≤ n → D.U16s ds → D.sig ds = ds.length → sig (join ds) = (join ds).length := by
  induction n with
  | zero => intro ds h _ _; have : ds = [] := List.eq_nil_of_length_eq_zero (by omega); subst this; rfl
  | succ n ih =>
    intro ds h hu hs
    match ds with
    | [] => rfl
    | [d] =>
      simp only [D.sig, List.length_cons, List.length_nil] at hs
      simp only [join, sig, List.length_cons, List.length_nil]
      by_cases hd : d = 0
      · simp [hd] at hs
      · simp [hd]
    | d :: e :: r =>
      have h1 := hu.head; have h2 := hu.tail.head; unfold D.U16 at h1 h2
      have hr : D.sig r = r.length := by
        exact D.sig_tail (D.sig_tail hs)
      have hj := ih r (by simp at h; omega) hu.tail.tail hr
      simp only [join, sig, List.length_cons, hj]
      split
      · rename_i h0
        have hr0 : r = [] := by
          match r with
          | [] => rfl
          | [x] => simp [join] at h0
          | x :: y :: z => simp [join] at h0
        subst hr0
        have he : e ≠ 0 := by
          intro he
          have := D.sig_tail hs
          simp [D.sig, he] at this
        rw [if_neg (by omega)]; omega
      · rfl
theorem join_lim (n : Nat) : join (D.lim n) = lim n := by
  have hu := join_u32 _ (D.lim n) (Nat.le_refl _) (D.lim_u16 n)
  have hs := join_sig _ (D.lim n) (Nat.le_refl _) (D.lim_u16 n) (D.sig_lim n)
  have hv := join_val _ (D.lim n) (Nat.le_refl _)
  have := lim_val hu hs
  rw [hv, D.val_lim] at this; simpa using this.symm
theorem join_snoc (k : Nat) : ∀ ds : List Int, 2 * k < ds.length → join (ds.take (2 * (k + 1))) = join (ds.take (2 * k)) ++ [ds.getD (2 * k) 0 + 65536 * ds.getD (2 * k + 1) 0] := by
  induction k with
  | zero =>
    intro ds h
    match ds with
    | [d] => simp [join]
    | d :: e :: r => simp [join]
  | succ k ih =>
    intro ds h
    match ds with
    | [d] => simp at h
    | d :: e :: r =>
      have := ih r (by simp at h; omega)
      have e1 : 2 * (k + 1 + 1) = 2 * (k + 1) + 2 := by omega
      have e2 : 2 * (k + 1) = 2 * k + 2 := by omega
      rw [e1, e2, List.take_succ_cons, List.take_succ_cons, List.take_succ_cons, List.take_succ_cons]
      simp only [join, List.cons_append]
      rw [show 2 * k + 2 = 2 * (k + 1) by omega, this]
      simp [show 2 * (k + 1) = 2 * k + 1 + 1 by omega]
theorem join_length_le (n : Nat) : ∀ ds : List Int, ds.length ≤ n → (join ds).length ≤ ds.length := by
  induction n with
  | zero => intro ds h; have : ds = [] := List.eq_nil_of_length_eq_zero (by omega); subst this; simp [join]
  | succ n ih =>
    intro ds h
    match ds with
    | [] => simp [join]
    | [d] => simp [join]
    | d :: e :: r => have := ih r (by simp at h; omega); simp only [join, List.length_cons]; omega
end Go.Proofs.Yteagdgbcfbkfbaa
/-
  The walk of Bytes.
-/
namespace Go.Proofs.Yteagdgbcfbkfbaa.Nt
open Go.RowKit

/-- n bytes of a number, the highest first. -/
def beb (v : Int) (n : Nat) : List Int := (List.range n).map fun k => v / 256 ^ (n - 1 - k) % 256
theorem beb_len (v : Int) (n : Nat) : (beb v n).length = n := by simp [beb]
theorem beb_get (v : Int) (n k : Nat) (h : k < n) : (beb v n).getD k 0 = v / 256 ^ (n - 1 - k) % 256 := by simp [beb, h]
theorem getD_ext {xs ys : List Int} (hl : xs.length = ys.length) (h : ∀ k, k < xs.length → xs.getD k 0 = ys.getD k 0) : xs = ys := by
  apply List.ext_getElem hl
  intro k h1 h2
  have := h k h1
  simpa [h1, h2] using this
theorem beb_u8 (v : Int) (n : Nat) : U8s (beb v n) := by
  intro x hx
  simp only [beb, List.mem_map] at hx
  obtain ⟨k, _, rfl⟩ := hx
  exact ⟨by omega, by omega⟩
theorem byte_of {X : List Int} (hu : U32s X) (i : Nat) : X.getD (i / 4) 0 / 2 ^ (i % 4 * 8) % 256 = val X / 256 ^ i % 256 := by
  have h := getD_div X (i / 4) hu
  obtain ⟨n, hn⟩ := Int.eq_ofNat_of_zero_le (val_nonneg hu)
  obtain ⟨z, hz⟩ := Int.eq_ofNat_of_zero_le (hu.at (i / 4)).1
  rw [hn, hz] at h
  simp only [Int.toNat_natCast] at h
  rw [hn, hz, pow256, pow32, ← h]
  have e0 : ((2 : Int) ^ (i % 4 * 8)) = ((2 ^ (i % 4 * 8) : Nat) : Int) := by simp
  rw [e0]
  have key : n / 2 ^ (32 * (i / 4)) % 4294967296 / 2 ^ (i % 4 * 8) % 256 = n / (2 ^ (32 * (i / 4)) * 2 ^ (i % 4 * 8)) % 256 := by
    obtain ⟨s, hs⟩ : ∃ s, i % 4 * 8 = s := ⟨_, rfl⟩
    rw [hs]
    have hs24 : s ≤ 24 := by omega
    have e : (4294967296 : Nat) = 2 ^ s * 2 ^ (32 - s) := by rw [← Nat.pow_add, show s + (32 - s) = 32 by omega]
    rw [e, Nat.mod_mul_right_div_self, Nat.div_div_eq_div_mul]
    have e3 : 2 ^ (32 - s) = 256 * 2 ^ (24 - s) := by rw [show (256 : Nat) = 2 ^ 8 from rfl, ← Nat.pow_add]; congr 1; omega
    rw [e3, Nat.mod_mul_right_mod]
  have k2 := congrArg (fun t : Nat => (t : Int)) key
  simp only [Int.natCast_emod, Int.natCast_ediv, Int.natCast_mul] at k2 ⊢
  exact k2
theorem high_zero {X : List Int} (hu : U32s X) {j : Nat} (h : 4 * sig X ≤ j) : val X / 256 ^ j % 256 = 0 := by
  have h1 : val X < 256 ^ j := by
    have h2 := val_lt (hu.take (sig X))
    rw [val_take_sig, List.length_take, Nat.min_eq_left (sig_le X)] at h2
    have h3 : (4294967296 : Int) ^ sig X = 256 ^ (4 * sig X) := by rw [Int.pow_mul]; rfl
    obtain ⟨d, rfl⟩ := Nat.le.dest h
    rw [Int.pow_add, ← h3]
    have h4 : (0 : Int) < 256 ^ d := Int.pow_pos (by decide)
    calc val X < 4294967296 ^ sig X * 1 := by omega
      _ ≤ 4294967296 ^ sig X * 256 ^ d := Int.mul_le_mul_of_nonneg_left (by omega) (Int.le_of_lt (pow_pos32 _))
  rw [Int.ediv_eq_zero_of_lt (val_nonneg hu) h1]; rfl

def bytS (X : List Int) (n : Int) : List Int × Int := if 512 < X.length then ([], 3) else if n < 0 ∨ 2048 < n then ([], 1) else if 8 * n < bitLen (val X).toNat then ([], 3) else (beb (val X) n.toNat, 0)
/-- Bytes and an error, as two results. -/
def Own8 (B : Nat) (w : World) (v : Value) (bs : List Int) : Prop := (v = .slice none 0 0 ∧ bs = []) ∨ ∃ b, v = .slice (some ⟨b, 0, none⟩) bs.length bs.length ∧ B ≤ b ∧ Arr .u8 5 w b bs
def Two8 (B : Nat) (w : World) (e : Ending) (s : List Int × Int) : Prop := ∃ r, e = .returned (.tuple #[r, .int .i64 s.2]) ∧ Own8 B w r s.1 ∧ (s.2 = 0 → r ≠ .slice none 0 0)
theorem Two8.nil' {B : Nat} {w : World} {n : Int} {s : List Int × Int} (hs : s = ([], n)) (hn : n ≠ 0) : Two8 B w (.returned (.tuple #[.slice none 0 0, .int .i64 n])) s := by
  subst hs; exact ⟨_, rfl, .inl ⟨rfl, rfl⟩, fun h => absurd h hn⟩
theorem Two8.mk' {B : Nat} {w : World} {r : Value} {n : Int} {bs : List Int} {s : List Int × Int} (h : Own8 B w r bs) (hs : s = (bs, n)) (hr : r ≠ .slice none 0 0) : Two8 B w (.returned (.tuple #[r, .int .i64 n])) s := by
  subst hs; exact ⟨r, rfl, h, fun _ => hr⟩
theorem Own8.sl {B : Nat} {w : World} {v : Value} {bs : List Int} (h : Own8 B w v bs) : Sl .u8 w v bs := by
  rcases h with ⟨rfl, rfl⟩ | ⟨b, rfl, _, hA⟩
  · exact ⟨none, 0, rfl, Nat.le_refl _, .inl rfl⟩
  · exact ⟨_, _, rfl, Nat.le_refl _, .inr ⟨b, 0, rfl, hA.lt, by have := hA.rd 0 bs.length (by omega); rw [List.drop_zero, List.take_length] at this; exact this⟩⟩

set_option maxHeartbeats 2000000 in
theorem Bytes_any (X : List Int) (n : Int) (v : Value) (w : World) (hX : Sl .u32 w v X) (uX : U32s X) (hn0 : -9223372036854775808 ≤ n) (hn1 : n ≤ 9223372036854775807) :
    Calls Try.prog 61 #[v, .int .i64 n] w fun e w' => Two8 w.heap.size w' e (bytS X n) ∧ Below w.heap.size w w' := by
  obtain ⟨a, c, rfl, hc, hXr⟩ := id hX
  by_cases h1 : 512 < X.length
  · have HL : Hid (bytS X n = ([], 3)) := by unfold bytS; rw [if_pos h1]; rfl
    go_enter Try.func61, Try.ntmps61
    go_wp2
    go_ret2
    exact ⟨Two8.nil' HL.out (by decide), Below.refl _ _⟩
  by_cases h2 : n < 0
  · have HL : Hid (bytS X n = ([], 1)) := by unfold bytS; rw [if_neg h1, if_pos (.inl h2)]; rfl
    go_enter Try.func61, Try.ntmps61
    go_wp2
    go_ret2
    exact ⟨Two8.nil' HL.out (by decide), Below.refl _ _⟩
  by_cases h3 : 2048 < n
  · have HL : Hid (bytS X n = ([], 1)) := by unfold bytS; rw [if_neg h1, if_pos (.inr h3)]; rfl
    go_enter Try.func61, Try.ntmps61
    go_wp2
    go_ret2
    exact ⟨Two8.nil' HL.out (by decide), Below.refl _ _⟩
  obtain ⟨N, rfl⟩ := Int.eq_ofNat_of_zero_le (show 0 ≤ n by omega)
  have hbits := Bits_any X _ w hX uX (by omega)
  obtain ⟨bl, hbl⟩ : ∃ bl, bitLen (val X).toNat = bl := ⟨_, rfl⟩
  rw [hbl] at hbits
  by_cases h4 : 8 * N < bl
  · have HL : Hid (bytS X N = ([], 3)) := by unfold bytS; rw [if_neg h1, if_neg (by omega), hbl, if_pos (by omega)]; rfl
    clear hbl
    go_enter Try.func61, Try.ntmps61
    go_wp2_with (go_at_call 89; refine hbits.mono ?_; rintro e w' ⟨rfl, hB⟩)
    go_ret2
    exact ⟨Two8.nil' HL.out (by decide), hB⟩
  have HL : Hid (bytS X N = (beb (val X) N, 0)) := by unfold bytS; rw [if_neg h1, if_neg (by omega), hbl, if_neg (by omega)]; rfl
  have hsX := sig_le X
  have hlen := fun (w' : World) (hB : Below w.heap.size w w') => length_len (w := w') _ _ ⟨X, below_sl hB hX, by omega, rfl⟩
  obtain ⟨sg, hsg⟩ : ∃ sg, sig X = sg := ⟨_, rfl⟩
  rw [hsg] at hsX hlen
  obtain ⟨mn, hmn, hmn2⟩ : ∃ mn : Nat, mn ≤ N ∧ mn ≤ 4 * sg := ⟨min N (4 * sg), by omega, by omega⟩
  have HB : Hid (bitLen (val X).toNat = bl ∧ sig X = sg) := ⟨hbl, hsg⟩
  clear hbl hsg mn hmn hmn2
  by_cases hle : N ≤ 4 * sg
  · have hle' : (N : Int) ≤ 4 * (sg : Int) := by omega
    go_enter Try.func61, Try.ntmps61
    go_wp2_with (first
      | (go_at_call 89; refine hbits.mono ?_; rintro e w' ⟨rfl, hB⟩)
      | (at_make; refine wpList_mk _ rfl _ _ 45 rfl .u8 5 1 Try.und8 Try.info8 _ N rfl rfl (by omega) (by omega) (by omega) ?_; intro w1 hA1 hB1; have hBt := hB.trans (hB1.mono hB.size))
      | (go_at_call 78; refine (hlen _ hBt).mono ?_; rintro e w1 ⟨rfl, rfl⟩))
    have hblk : w.heap.size ≤ w'.heap.size := hB.size
    go_loopw [30] (fun iv wr => ∃ (i : Nat) (S : List Int), iv = .int .i64 i ∧ i ≤ N ∧ Arr .u8 5 wr w'.heap.size S ∧ S.length = N ∧ Below w.heap.size w wr ∧ ∀ k, k < N → S.getD k 0 = if N - 1 - k < i then val X / 256 ^ (N - 1 - k) % 256 else 0)
      (fun iv _ => N - (intOf iv).toNat)
    case atStart => exact ⟨0, _, rfl, Nat.zero_le _, hA1, by simp, hBt, fun k hk => by simp [hk]⟩
    case round =>
      clear hA1 hB1 hBt hlen hbits
      obtain ⟨i, S, rfl, hi, hA, hlS, hBt, hv⟩ := hrel
      by_cases hlt : i < N
      · rcases hXr with rfl | ⟨b, o, rfl, hb, hr⟩
        · simp at hsX; omega
        obtain ⟨m, hm⟩ : ∃ m, N - 1 - i = m := ⟨_, rfl⟩
        obtain ⟨q, hq⟩ : ∃ q, i / 4 = q := ⟨_, rfl⟩
        obtain ⟨s, hs⟩ : ∃ s, i % 4 * 8 = s := ⟨_, rfl⟩
        obtain ⟨z, hz⟩ : ∃ z, X.getD q 0 = z := ⟨_, rfl⟩
        have uz : U32 z := hz ▸ uX.at q
        have hcz : wr.cell? ⟨b, o + q, none⟩ = some (.int .u32 z) := by rw [← hz]; exact (below_rd hBt hb hr) q (by omega)
        obtain ⟨y, hcy⟩ : ∃ y, wr.cell? ⟨w'.heap.size, m, none⟩ = some (.int .u8 y) := ⟨_, hA.cell m (by omega)⟩
        have hfz : wr.frozen? ⟨w'.heap.size, m, none⟩ = false := hA.frozen m
        obtain ⟨z0, z1⟩ := uz
        have hs24 : s ≤ 24 := by omega
        have hp0 : (0 : Int) < 2 ^ s := Int.pow_pos (by decide)
        have hd0 : 0 ≤ z / 2 ^ s := Int.ediv_nonneg z0 (Int.le_of_lt hp0)
        have hd1 : z / 2 ^ s < 4294967296 := Int.lt_of_le_of_lt (Int.ediv_le_self _ z0) z1
        have hqi : (i : Int) / 4 = q := by omega
        have hsi : (i : Int) % 4 * 8 = s := by omega
        have hmi : (N : Int) - 1 - i = m := by omega
        have hqs : q < X.length := by omega
        have hmn : m < N := by omega
        have HH : Hid (X.getD q 0 = z ∧ Arr .u8 5 wr w'.heap.size S ∧ S.length = N ∧ Below w.heap.size w wr ∧ (∀ k, k < N → S.getD k 0 = if N - 1 - k < i then val X / 256 ^ (N - 1 - k) % 256 else 0) ∧ N - 1 - i = m ∧ i / 4 = q ∧ i % 4 * 8 = s) := ⟨hz, hA, hlS, hBt, hv, hm, hq, hs⟩
        clear hz hA hlS hBt hv hm hq hs hr
        go_wp2
        go_roundw
        case rel =>
          obtain ⟨hz, hA, hlS, hBt, hv, hm, hq, hs⟩ := HH.out
          refine ⟨i + 1, S.set m (z / 2 ^ s % 256), by go_num, by omega, hA.set _ _, by simpa using hlS, hBt.setCell hblk _, fun k hk => ?_⟩
          by_cases hkm : k = m
          · subst hkm
            rw [if_pos (by omega), List.getD_eq_getElem?_getD, List.getElem?_set_self (by omega)]
            have e : N - 1 - k = i := by omega
            rw [e, ← byte_of uX, hq, hs, hz]; rfl
          · rw [List.getD_eq_getElem?_getD, List.getElem?_set_ne (Ne.symm hkm), ← List.getD_eq_getElem?_getD, hv k hk]
            have e : (N - 1 - k < i) = (N - 1 - k < i + 1) := by apply propext; omega
            simp only [e]
        case measure => simp [intOf]; omega
      · have HH : Hid (Arr .u8 5 wr w'.heap.size S ∧ S.length = N ∧ Below w.heap.size w wr ∧ (∀ k, k < N → S.getD k 0 = if N - 1 - k < i then val X / 256 ^ (N - 1 - k) % 256 else 0) ∧ i = N) := ⟨hA, hlS, hBt, hv, by omega⟩
        clear hA hlS hBt hv
        go_wp2
        go_ret2
        obtain ⟨hA, hlS, hBt, hv, hiT⟩ := HH.out
        refine ⟨Two8.mk' (bs := beb (val X) N) (.inr ⟨_, ?_, hblk, ?_⟩) HL.out (by simp), hBt⟩
        · rw [beb_len]; rfl
        · have : beb (val X) N = S := by
            refine getD_ext (by rw [beb_len, hlS]) fun k hk => ?_
            rw [beb_len] at hk
            rw [beb_get _ _ _ hk, hv k hk]
            rw [if_pos (by omega)]
          rw [this]; exact hA
  · have hle' : 4 * (sg : Int) < (N : Int) := by omega
    go_enter Try.func61, Try.ntmps61
    go_wp2_with (first
      | (go_at_call 89; refine hbits.mono ?_; rintro e w' ⟨rfl, hB⟩)
      | (at_make; refine wpList_mk _ rfl _ _ 45 rfl .u8 5 1 Try.und8 Try.info8 _ N rfl rfl (by omega) (by omega) (by omega) ?_; intro w1 hA1 hB1; have hBt := hB.trans (hB1.mono hB.size))
      | (go_at_call 78; refine (hlen _ hBt).mono ?_; rintro e w1 ⟨rfl, rfl⟩))
    have hblk : w.heap.size ≤ w'.heap.size := hB.size
    go_loopw [30] (fun iv wr => ∃ (i : Nat) (S : List Int), iv = .int .i64 i ∧ i ≤ (4 * sg) ∧ Arr .u8 5 wr w'.heap.size S ∧ S.length = N ∧ Below w.heap.size w wr ∧ ∀ k, k < N → S.getD k 0 = if N - 1 - k < i then val X / 256 ^ (N - 1 - k) % 256 else 0)
      (fun iv _ => (4 * sg) - (intOf iv).toNat)
    case atStart => exact ⟨0, _, rfl, Nat.zero_le _, hA1, by simp, hBt, fun k hk => by simp [hk]⟩
    case round =>
      clear hA1 hB1 hBt hlen hbits
      obtain ⟨i, S, rfl, hi, hA, hlS, hBt, hv⟩ := hrel
      by_cases hlt : i < (4 * sg)
      · rcases hXr with rfl | ⟨b, o, rfl, hb, hr⟩
        · simp at hsX; omega
        obtain ⟨m, hm⟩ : ∃ m, N - 1 - i = m := ⟨_, rfl⟩
        obtain ⟨q, hq⟩ : ∃ q, i / 4 = q := ⟨_, rfl⟩
        obtain ⟨s, hs⟩ : ∃ s, i % 4 * 8 = s := ⟨_, rfl⟩
        obtain ⟨z, hz⟩ : ∃ z, X.getD q 0 = z := ⟨_, rfl⟩
        have uz : U32 z := hz ▸ uX.at q
        have hcz : wr.cell? ⟨b, o + q, none⟩ = some (.int .u32 z) := by rw [← hz]; exact (below_rd hBt hb hr) q (by omega)
        obtain ⟨y, hcy⟩ : ∃ y, wr.cell? ⟨w'.heap.size, m, none⟩ = some (.int .u8 y) := ⟨_, hA.cell m (by omega)⟩
        have hfz : wr.frozen? ⟨w'.heap.size, m, none⟩ = false := hA.frozen m
        obtain ⟨z0, z1⟩ := uz
        have hs24 : s ≤ 24 := by omega
        have hp0 : (0 : Int) < 2 ^ s := Int.pow_pos (by decide)
        have hd0 : 0 ≤ z / 2 ^ s := Int.ediv_nonneg z0 (Int.le_of_lt hp0)
        have hd1 : z / 2 ^ s < 4294967296 := Int.lt_of_le_of_lt (Int.ediv_le_self _ z0) z1
        have hqi : (i : Int) / 4 = q := by omega
        have hsi : (i : Int) % 4 * 8 = s := by omega
        have hmi : (N : Int) - 1 - i = m := by omega
        have hqs : q < X.length := by omega
        have hmn : m < N := by omega
        have HH : Hid (X.getD q 0 = z ∧ Arr .u8 5 wr w'.heap.size S ∧ S.length = N ∧ Below w.heap.size w wr ∧ (∀ k, k < N → S.getD k 0 = if N - 1 - k < i then val X / 256 ^ (N - 1 - k) % 256 else 0) ∧ N - 1 - i = m ∧ i / 4 = q ∧ i % 4 * 8 = s) := ⟨hz, hA, hlS, hBt, hv, hm, hq, hs⟩
        clear hz hA hlS hBt hv hm hq hs hr
        go_wp2
        go_roundw
        case rel =>
          obtain ⟨hz, hA, hlS, hBt, hv, hm, hq, hs⟩ := HH.out
          refine ⟨i + 1, S.set m (z / 2 ^ s % 256), by go_num, by omega, hA.set _ _, by simpa using hlS, hBt.setCell hblk _, fun k hk => ?_⟩
          by_cases hkm : k = m
          · subst hkm
            rw [if_pos (by omega), List.getD_eq_getElem?_getD, List.getElem?_set_self (by omega)]
            have e : N - 1 - k = i := by omega
            rw [e, ← byte_of uX, hq, hs, hz]; rfl
          · rw [List.getD_eq_getElem?_getD, List.getElem?_set_ne (Ne.symm hkm), ← List.getD_eq_getElem?_getD, hv k hk]
            have e : (N - 1 - k < i) = (N - 1 - k < i + 1) := by apply propext; omega
            simp only [e]
        case measure => simp [intOf]; omega
      · have HH : Hid (Arr .u8 5 wr w'.heap.size S ∧ S.length = N ∧ Below w.heap.size w wr ∧ (∀ k, k < N → S.getD k 0 = if N - 1 - k < i then val X / 256 ^ (N - 1 - k) % 256 else 0) ∧ i = (4 * sg)) := ⟨hA, hlS, hBt, hv, by omega⟩
        clear hA hlS hBt hv
        go_wp2
        go_ret2
        obtain ⟨hA, hlS, hBt, hv, hiT⟩ := HH.out
        refine ⟨Two8.mk' (bs := beb (val X) N) (.inr ⟨_, ?_, hblk, ?_⟩) HL.out (by simp), hBt⟩
        · rw [beb_len]; rfl
        · have : beb (val X) N = S := by
            refine getD_ext (by rw [beb_len, hlS]) fun k hk => ?_
            rw [beb_len] at hk
            rw [beb_get _ _ _ hk, hv k hk]
            split
            · rfl
            · exact high_zero uX (by have := HB.out.2; omega)
          rw [this]; exact hA
end Go.Proofs.Yteagdgbcfbkfbaa.Nt
/-
  The walks of Same, SameBytes, num; literals in memory.
-/
namespace Go.Proofs.Yteagdgbcfbkfbaa.Nt
open Go.RowKit

set_option maxHeartbeats 1000000 in
theorem Same_any {w : World} (v u : Value) (xs : List Int) (hx : Sl .u32 w v xs) (hy : Sl .u32 w u xs) (lx : xs.length ≤ 1152921504606846976) :
    Calls Try.prog 50 #[v, u] w fun e w' => e = .returned (.bool true) ∧ Below w.heap.size w w' := by
  obtain ⟨a1, c1, rfl, hc1, h1⟩ := hx
  obtain ⟨a2, c2, rfl, hc2, h2⟩ := hy
  by_cases hne : xs = []
  · subst hne
    simp only [List.length_nil]
    go_enter Try.func50, Try.ntmps50
    go_wp2
    go_loop [5] (fun i => i = .int .i64 0) (fun _ => 0)
    case atStart => rfl
    case round =>
      subst hrel
      go_wp2
      go_ret
      exact ⟨rfl, Below.refl _ _⟩
  · rcases h1 with h1 | ⟨b1, o1, rfl, hb1, hr1⟩
    · exact absurd h1 hne
    rcases h2 with h2 | ⟨b2, o2, rfl, hb2, hr2⟩
    · exact absurd h2 hne
    obtain ⟨n, hn⟩ : ∃ n, xs.length = n := ⟨_, rfl⟩
    rw [hn] at lx hc1 hc2 ⊢
    have HN : Hid (xs.length = n) := hn
    clear hn hne
    go_enter Try.func50, Try.ntmps50
    go_wp2
    go_loopw [5] (fun i wr => ∃ k : Nat, k ≤ n ∧ i = .int .i64 k ∧ Below w.heap.size w wr) (fun i _ => n - (intOf i).toNat)
    case atStart => exact ⟨0, Nat.zero_le _, rfl, Below.refl _ _⟩
    case round =>
      obtain ⟨k, hk, rfl, hB⟩ := hrel
      by_cases hkn : k < n
      · obtain ⟨x, hx⟩ : ∃ x, xs.getD k 0 = x := ⟨_, rfl⟩
        have hcx : wr.cell? ⟨b1, o1 + k, none⟩ = some (.int .u32 x) := by rw [← hx]; exact (below_rd hB hb1 hr1) k (by rw [HN.out]; exact hkn)
        have hcy : wr.cell? ⟨b2, o2 + k, none⟩ = some (.int .u32 x) := by rw [← hx]; exact (below_rd hB hb2 hr2) k (by rw [HN.out]; exact hkn)
        have HB : Hid (Below w.heap.size w wr) := hB
        clear hx hB hr1 hr2
        go_wp2
        go_quiet (fail)
        go_wp2
        go_roundw
        case rel => exact ⟨k + 1, by omega, by go_num, HB.out.trans ⟨rfl, rfl, rfl, Nat.le_refl _, fun _ _ => rfl⟩⟩
        case measure => simp [intOf]; omega
      · have HB : Hid (Below w.heap.size w wr) := hB
        clear hB
        go_wp2
        go_ret
        exact ⟨rfl, HB.out⟩

set_option maxHeartbeats 1000000 in
theorem SameBytes_any {w : World} (v u : Value) (xs : List Int) (hx : Sl .u8 w v xs) (hy : Sl .u8 w u xs) (lx : xs.length ≤ 1152921504606846976) :
    Calls Try.prog 28 #[v, u] w fun e w' => e = .returned (.bool true) ∧ Below w.heap.size w w' := by
  obtain ⟨a1, c1, rfl, hc1, h1⟩ := hx
  obtain ⟨a2, c2, rfl, hc2, h2⟩ := hy
  by_cases hne : xs = []
  · subst hne
    simp only [List.length_nil]
    go_enter Try.func28, Try.ntmps28
    go_wp2
    go_loop [5] (fun i => i = .int .i64 0) (fun _ => 0)
    case atStart => rfl
    case round =>
      subst hrel
      go_wp2
      go_ret
      exact ⟨rfl, Below.refl _ _⟩
  · rcases h1 with h1 | ⟨b1, o1, rfl, hb1, hr1⟩
    · exact absurd h1 hne
    rcases h2 with h2 | ⟨b2, o2, rfl, hb2, hr2⟩
    · exact absurd h2 hne
    obtain ⟨n, hn⟩ : ∃ n, xs.length = n := ⟨_, rfl⟩
    rw [hn] at lx hc1 hc2 ⊢
    have HN : Hid (xs.length = n) := hn
    clear hn hne
    go_enter Try.func28, Try.ntmps28
    go_wp2
    go_loopw [5] (fun i wr => ∃ k : Nat, k ≤ n ∧ i = .int .i64 k ∧ Below w.heap.size w wr) (fun i _ => n - (intOf i).toNat)
    case atStart => exact ⟨0, Nat.zero_le _, rfl, Below.refl _ _⟩
    case round =>
      obtain ⟨k, hk, rfl, hB⟩ := hrel
      by_cases hkn : k < n
      · obtain ⟨x, hx⟩ : ∃ x, xs.getD k 0 = x := ⟨_, rfl⟩
        have hcx : wr.cell? ⟨b1, o1 + k, none⟩ = some (.int .u8 x) := by rw [← hx]; exact (below_rd hB hb1 hr1) k (by rw [HN.out]; exact hkn)
        have hcy : wr.cell? ⟨b2, o2 + k, none⟩ = some (.int .u8 x) := by rw [← hx]; exact (below_rd hB hb2 hr2) k (by rw [HN.out]; exact hkn)
        have HB : Hid (Below w.heap.size w wr) := hB
        clear hx hB hr1 hr2
        go_wp2
        go_quiet (fail)
        go_wp2
        go_roundw
        case rel => exact ⟨k + 1, by omega, by go_num, HB.out.trans ⟨rfl, rfl, rfl, Nat.le_refl _, fun _ _ => rfl⟩⟩
        case measure => simp [intOf]; omega
      · have HB : Hid (Below w.heap.size w wr) := hB
        clear hB
        go_wp2
        go_ret
        exact ⟨rfl, HB.out⟩

theorem arr_new {k : IntKind} {e : TypeId} {w : World} {b : Nat} {cs : Array Value} {xs : List Int} (hb : b = w.heap.size) (h : cs = (xs.map (Value.int k)).toArray) : Arr k e (w.alloc (.cells cs e)) b xs := by
  subst hb; subst h; unfold Arr; rw [heap_alloc_new]
theorem arr_old {k : IntKind} {e : TypeId} {w : World} {b : Nat} {xs : List Int} {o : Obj} (h : Arr k e w b xs) : Arr k e (w.alloc o) b xs := by
  exact below_arr ((Below.refl _ _).alloc (Nat.le_refl _) o) h.lt h
theorem al1 {k : IntKind} {w : World} {v : Value} {xs : List Int} {o : Obj} (h : Sl k w v xs) : Sl k (w.alloc o) v xs := below_sl ((Below.refl _ _).alloc (Nat.le_refl _) o) h
theorem grow0 {a w w' : World} (h : Below a.heap.size a w) (hB : Below w.heap.size w w') : Below a.heap.size a w' := h.trans (hB.mono h.size)
theorem al {a w : World} {o : Obj} (h : Below a.heap.size a w) : Below a.heap.size a (w.alloc o) := h.alloc h.size o
theorem _root_.Go.Proofs.Yteagdgbcfbkfbaa.Arr.sl8 {w : World} {b : Nat} {S : List Int} (h : Arr .u8 5 w b S) : Sl .u8 w (.slice (some ⟨b, 0, none⟩) S.length S.length) S :=
  ⟨_, _, rfl, Nat.le_refl _, .inr ⟨b, 0, rfl, h.lt, by have := h.rd 0 S.length (by omega); rw [List.drop_zero, List.take_length] at this; exact this⟩⟩
theorem lim_of {N : Int} {xs : List Int} (hu : U32s xs) (hs : sig xs = xs.length) (h : val xs = N) : lim N.toNat = xs := by rw [← h]; exact lim_val hu hs
theorem u1 {x : Int} (h : 0 ≤ x) (h' : x < 4294967296) : U32s [x] := U32s.cons ⟨h, h'⟩ U32s.nil
theorem u2 {x y : Int} (h : 0 ≤ x) (h' : x < 4294967296) (k : 0 ≤ y) (k' : y < 4294967296) : U32s [x, y] := U32s.cons ⟨h, h'⟩ (u1 k k')
theorem u3 {x y z : Int} (h : 0 ≤ x) (h' : x < 4294967296) (k : 0 ≤ y) (k' : y < 4294967296) (j : 0 ≤ z) (j' : z < 4294967296) : U32s [x, y, z] := U32s.cons ⟨h, h'⟩ (u2 k k' j j')

/-! ### the page's examples, one by one -/
theorem live_add {w : World} {v u : Value} (h : Sl .u32 w v [4294967295]) (h' : Sl .u32 w u [1]) :
    Calls Try.prog 80 #[v, u] w fun e w' => ∃ r, e = .returned (.tuple #[r, .int .i64 0]) ∧ Sl .u32 w' r [0, 1] ∧ Below w.heap.size w w' := by
  refine (Add_any _ _ _ _ _ h h' (u1 (by decide) (by decide)) (u1 (by decide) (by decide))).mono ?_
  have e1 : addS [4294967295] [1] = ([0, 1], 0) := by
    have : lim (val [4294967295] + val [1]).toNat = [0, 1] := lim_of (u2 (by decide) (by decide) (by decide) (by decide)) (by decide) (by decide)
    simp [addS, this, fit]
  rintro e w' ⟨⟨r, rfl, hr⟩, hB⟩
  rw [e1] at hr
  exact ⟨r, by rw [e1], hr.sl, hB⟩
theorem live_sub {w : World} {v u : Value} (h : Sl .u32 w v [0, 1]) (h' : Sl .u32 w u [1]) :
    Calls Try.prog 81 #[v, u] w fun e w' => ∃ r, e = .returned (.tuple #[r, .int .i64 0]) ∧ Sl .u32 w' r [4294967295] ∧ Below w.heap.size w w' := by
  refine (Sub_any _ _ _ _ _ h h' (u2 (by decide) (by decide) (by decide) (by decide)) (u1 (by decide) (by decide))).mono ?_
  have e1 : subS [0, 1] [1] = ([4294967295], 0) := by
    have : lim (val [0, 1] - val [1]).toNat = [4294967295] := lim_of (u1 (by decide) (by decide)) (by decide) (by decide)
    have h2 : ¬ val [0, 1] < val [1] := by decide
    simp [subS, this, h2]
  rintro e w' ⟨⟨r, rfl, hr⟩, hB⟩
  rw [e1] at hr
  exact ⟨r, by rw [e1], hr.sl, hB⟩
theorem live_mul {w : World} {v u : Value} (h : Sl .u32 w v [0, 1]) (h' : Sl .u32 w u [0, 1]) :
    Calls Try.prog 100 #[v, u] w fun e w' => ∃ r, e = .returned (.tuple #[r, .int .i64 0]) ∧ Sl .u32 w' r [0, 0, 1] ∧ Below w.heap.size w w' := by
  refine (Mul_any _ _ _ _ _ h h' (u2 (by decide) (by decide) (by decide) (by decide)) (u2 (by decide) (by decide) (by decide) (by decide))).mono ?_
  have e1 : mulS [0, 1] [0, 1] = ([0, 0, 1], 0) := by
    have : lim (val [0, 1] * val [0, 1]).toNat = [0, 0, 1] := lim_of (u3 (by decide) (by decide) (by decide) (by decide) (by decide) (by decide)) (by decide) (by decide)
    simp [mulS, this, fit]
  rintro e w' ⟨⟨r, rfl, hr⟩, hB⟩
  rw [e1] at hr
  exact ⟨r, by rw [e1], hr.sl, hB⟩
theorem live_div {w : World} {v u : Value} (h : Sl .u32 w v [7]) (h' : Sl .u32 w u [2]) :
    Calls Try.prog 88 #[v, u] w fun e w' => ∃ q r, e = .returned (.tuple #[q, r, .int .i64 0]) ∧ Sl .u32 w' q [3] ∧ Sl .u32 w' r [1] ∧ Below w.heap.size w w' := by
  refine (DivMod_any _ _ _ _ _ h h' (u1 (by decide) (by decide)) (u1 (by decide) (by decide)) (.inl (by decide))).mono ?_
  have e1 : divS [7] [2] = ([3], [1], 0) := by
    have t1 : lim (val [7] / val [2]).toNat = [3] := lim_of (u1 (by decide) (by decide)) (by decide) (by decide)
    have t2 : lim (val [7] % val [2]).toNat = [1] := lim_of (u1 (by decide) (by decide)) (by decide) (by decide)
    have h2 : ¬ val [2] = 0 := by decide
    simp [divS, t1, t2, h2]
  rintro e w' ⟨⟨q, r, rfl, hq, hr⟩, hB⟩
  rw [e1] at hr hq
  exact ⟨q, r, by rw [e1], hq.sl, hr.sl, hB⟩
theorem live_inv {w : World} {v u : Value} (h : Sl .u32 w v [3]) (h' : Sl .u32 w u [7]) :
    Calls Try.prog 65 #[v, u] w fun e w' => ∃ r, e = .returned (.tuple #[r, .int .i64 0]) ∧ Sl .u32 w' r [5] ∧ Below w.heap.size w w' := by
  refine (Inverse_any _ _ _ _ _ h h' (u1 (by decide) (by decide)) (u1 (by decide) (by decide)) (.inl (by decide))).mono ?_
  rintro e w' ⟨s, hs, ⟨r, rfl, hr⟩, hB⟩
  have e1 : s = ([5], 0) := by
    unfold InvS at hs
    rw [if_neg (by decide), if_neg (by decide)] at hs
    have v3 : val [3] = 3 := by decide
    have v7 : val [7] = 7 := by decide
    rw [v3, v7] at hs
    rcases hs with ⟨G, g0, g1, ⟨t, ht⟩, rfl⟩ | ⟨D, d0, d1, d2, rfl⟩
    · have hG : G = 5 := by omega
      subst hG
      have : lim (Int.toNat 5) = [5] := lim_of (u1 (by decide) (by decide)) (by decide) (by decide)
      rw [this]
    · obtain ⟨x, hx⟩ := d1
      obtain ⟨y, hy⟩ := d2
      exfalso
      have hd := Int.le_of_dvd (by decide) (show D ∣ 3 from ⟨x, hx⟩)
      have hD : D = 2 ∨ D = 3 := by omega
      rcases hD with rfl | rfl <;> omega
  subst e1
  exact ⟨r, rfl, hr.sl, hB⟩
theorem live_byt {w : World} {v : Value} (h : Sl .u32 w v [258]) :
    Calls Try.prog 61 #[v, .int .i64 3] w fun e w' => ∃ r, e = .returned (.tuple #[r, .int .i64 0]) ∧ Sl .u8 w' r [0, 1, 2] ∧ Below w.heap.size w w' := by
  refine (Bytes_any [258] 3 _ _ h (u1 (by decide) (by decide)) (by decide) (by decide)).mono ?_
  have e1 : bytS [258] 3 = ([0, 1, 2], 0) := by
    unfold bytS
    rw [if_neg (by decide), if_neg (by decide), if_neg (by decide)]
    rfl
  rintro e w' ⟨⟨r, rfl, hr, _⟩, hB⟩
  rw [e1] at hr
  exact ⟨r, by rw [e1], hr.sl, hB⟩
end Go.Proofs.Yteagdgbcfbkfbaa.Nt
