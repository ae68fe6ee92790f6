/-
  Lists of digits of 16 bits: their values, the digits of a number; limbs cut into digits, digits put together as limbs. No Go text in sight.
-/
import Derived.Deep.AppendSrc
import Derived.Deep.RegionHeld3
import Derived.Test.YtkdclocjijmgpaaK17
namespace Go.Proofs.Ytkdclocjijmgpaa.D
/-! ### numbers as lists of digits -/
def U16 (x : Int) : Prop := 0 ≤ x ∧ x < 65536
def U16s (xs : List Int) : Prop := ∀ x ∈ xs, U16 x
def val : List Int → Int
  | [] => 0
  | x :: xs => x + 65536 * val xs
def sig : List Int → Nat
  | [] => 0
  | x :: xs => if sig xs = 0 then (if x = 0 then 0 else 1) else sig xs + 1
def limF : Nat → Nat → List Int
  | 0, _ => []
  | f + 1, n => if n = 0 then [] else ((n % 65536 : Nat) : Int) :: limF f (n / 65536)
/-- The digits of a number, the lowest first. -/
def lim (n : Nat) : List Int := limF n n

theorem U16s.at {xs : List Int} (h : U16s xs) (i : Nat) : U16 (xs.getD i 0) := by
  by_cases hi : i < xs.length
  · simp [hi]; exact h _ (List.getElem_mem hi)
  · simp [List.getD, List.getElem?_eq_none (Nat.le_of_not_lt hi), U16]
theorem U16s.nil : U16s [] := by intro x hx; simp at hx
theorem U16s.cons {x : Int} {xs : List Int} (h : U16 x) (hs : U16s xs) : U16s (x :: xs) := by
  intro y hy; rcases List.mem_cons.1 hy with rfl | hy
  · exact h
  · exact hs y hy
theorem U16s.head {x : Int} {xs : List Int} (h : U16s (x :: xs)) : U16 x := h x (by simp)
theorem U16s.tail {x : Int} {xs : List Int} (h : U16s (x :: xs)) : U16s xs := fun y hy => h y (by simp [hy])
theorem U16s.take {xs : List Int} (h : U16s xs) (n : Nat) : U16s (xs.take n) := fun y hy => h y (List.mem_of_mem_take hy)
theorem U16s.drop {xs : List Int} (h : U16s xs) (n : Nat) : U16s (xs.drop n) := fun y hy => h y (List.mem_of_mem_drop hy)
theorem U16s.append {xs ys : List Int} (h : U16s xs) (k : U16s ys) : U16s (xs ++ ys) := by
  intro y hy; rcases List.mem_append.1 hy with hy | hy
  · exact h y hy
  · exact k y hy
theorem U16s.set {xs : List Int} (h : U16s xs) (i : Nat) {x : Int} (hx : U16 x) : U16s (xs.set i x) := by
  intro y hy; rcases List.mem_or_eq_of_mem_set hy with hy | rfl
  · exact h y hy
  · exact hx
theorem U16s.zeros (n : Nat) : U16s (List.replicate n 0) := by
  intro y hy; rw [(List.mem_replicate.1 hy).2]; exact ⟨by decide, by decide⟩

theorem val_nonneg {xs : List Int} (h : U16s xs) : 0 ≤ val xs := by
  induction xs with
  | nil => simp [val]
  | cons x xs ih => have := ih h.tail; have := h.head.1; simp only [val]; omega
theorem pow_succ16 (n : Nat) : (65536 : Int) ^ (n + 1) = 65536 * 65536 ^ n := by rw [Int.pow_succ, Int.mul_comm]
theorem pow_pos16 (n : Nat) : (0 : Int) < 65536 ^ n := Int.pow_pos (by decide)
theorem val_lt {xs : List Int} (h : U16s xs) : val xs < 65536 ^ xs.length := by
  induction xs with
  | nil => simp [val]
  | cons x xs ih => have := ih h.tail; have h1 := h.head; unfold U16 at h1; simp only [val, List.length_cons, pow_succ16]; omega
theorem val_append (xs ys : List Int) : val (xs ++ ys) = val xs + 65536 ^ xs.length * val ys := by
  induction xs with
  | nil => simp [val]
  | cons x xs ih => simp only [List.cons_append, val, ih, List.length_cons, pow_succ16, Int.mul_add, Int.mul_assoc]; omega
theorem val_zeros (n : Nat) : val (List.replicate n 0) = 0 := by
  induction n with
  | zero => rfl
  | succ n ih => simp [List.replicate_succ, val, ih]
theorem sig_le (xs : List Int) : sig xs ≤ xs.length := by
  induction xs with
  | nil => simp [sig]
  | cons x xs ih => simp only [sig, List.length_cons]; split <;> (try split) <;> omega
theorem val_of_sig0 {xs : List Int} (h : sig xs = 0) : val xs = 0 := by
  induction xs with
  | nil => rfl
  | cons x xs ih =>
    simp only [sig] at h
    split at h
    · split at h
      · rename_i h1 h2; simp [val, h2, ih h1]
      · omega
    · omega
theorem sig0_of_val {xs : List Int} (hu : U16s xs) (h : val xs = 0) : sig xs = 0 := by
  induction xs with
  | nil => rfl
  | cons x xs ih =>
    have h1 := val_nonneg hu.tail; have h2 := hu.head; unfold U16 at h2
    simp only [val] at h
    have hv : val xs = 0 := by omega
    have hx : x = 0 := by omega
    simp [sig, ih hu.tail hv, hx]
theorem val_take_sig (xs : List Int) : val (xs.take (sig xs)) = val xs := by
  induction xs with
  | nil => rfl
  | cons x xs ih =>
    simp only [sig]
    split
    · rename_i h
      split
      · rename_i hx; simp [val, hx, val_of_sig0 h]
      · simp [val, val_of_sig0 h]
    · simp [val, ih]
/-- What 'length' finds is 'sig'. -/
theorem sig_eq {xs : List Int} {k : Nat} (hk : k ≤ xs.length) (h0 : ∀ j, k ≤ j → j < xs.length → xs.getD j 0 = 0) (h1 : k = 0 ∨ xs.getD (k - 1) 0 ≠ 0) : sig xs = k := by
  induction xs generalizing k with
  | nil => simp at hk; simp [sig, hk]
  | cons x xs ih =>
    cases k with
    | zero =>
      have hs : sig xs = 0 := ih (k := 0) (Nat.zero_le _) (fun j _ hj => by simpa using h0 (j + 1) (Nat.zero_le _) (by simpa using hj)) (.inl rfl)
      have hx : x = 0 := by simpa using h0 0 (Nat.le_refl _) (by simp)
      simp [sig, hs, hx]
    | succ k =>
      have hkl : k ≤ xs.length := by simpa using hk
      have hz : ∀ j, k ≤ j → j < xs.length → xs.getD j 0 = 0 := fun j hj hl => by simpa using h0 (j + 1) (by omega) (by simpa using hl)
      cases k with
      | zero =>
        have hs : sig xs = 0 := ih (k := 0) (Nat.zero_le _) hz (.inl rfl)
        have hx : x ≠ 0 := by simpa using h1
        simp [sig, hs, hx]
      | succ k =>
        have hs : sig xs = k + 1 := ih hkl hz (.inr (by simpa using h1))
        simp [sig, hs]
theorem sig_last {xs : List Int} (h : 0 < sig xs) : xs.getD (sig xs - 1) 0 ≠ 0 := by
  induction xs with
  | nil => simp [sig] at h
  | cons x xs ih =>
    simp only [sig] at h ⊢
    split
    · rename_i h1
      split
      · rename_i h2; simp [h1, h2] at h
      · rename_i h2; simpa using h2
    · rename_i h1
      have := ih (by omega)
      obtain ⟨m, hm⟩ : ∃ m, sig xs = m + 1 := ⟨sig xs - 1, by omega⟩
      rw [hm] at this ⊢
      simpa using this
theorem sig_take {xs : List Int} : sig (xs.take (sig xs)) = sig xs := by
  have hl := sig_le xs
  refine sig_eq (by simp; omega) (fun j h1 h2 => by simp at h2; omega) ?_
  by_cases h : sig xs = 0
  · exact .inl h
  · refine .inr ?_
    have := sig_last (xs := xs) (by omega)
    rw [List.getD_eq_getElem?_getD, List.getElem?_take, if_pos (by omega), ← List.getD_eq_getElem?_getD]; exact this
theorem limF_fuel (f : Nat) : ∀ g n, n ≤ f → n ≤ g → limF f n = limF g n := by
  induction f with
  | zero =>
    intro g n h1 _
    have : n = 0 := by omega
    subst this
    cases g <;> simp [limF]
  | succ f ih =>
    intro g n h1 h2
    cases g with
    | zero =>
      have : n = 0 := by omega
      subst this; simp [limF]
    | succ g =>
      simp only [limF]
      split
      · rfl
      · rw [ih g (n / 65536) (by omega) (by omega)]
theorem lim_zero : lim 0 = [] := rfl
theorem lim_pos {n : Nat} (h : n ≠ 0) : lim n = ((n % 65536 : Nat) : Int) :: lim (n / 65536) := by
  obtain ⟨m, rfl⟩ : ∃ m, n = m + 1 := ⟨n - 1, by omega⟩
  unfold lim
  rw [limF, if_neg h, limF_fuel m ((m + 1) / 65536) ((m + 1) / 65536) (by omega) (Nat.le_refl _)]
theorem lim_u16 (n : Nat) : U16s (lim n) := by
  induction n using Nat.strongRecOn with
  | _ n ih =>
    by_cases h : n = 0
    · subst h; rw [lim_zero]; exact U16s.nil
    · rw [lim_pos h]; exact U16s.cons ⟨by omega, by omega⟩ (ih _ (by omega))
theorem val_lim (n : Nat) : val (lim n) = n := by
  induction n using Nat.strongRecOn with
  | _ n ih =>
    by_cases h : n = 0
    · subst h; rw [lim_zero]; rfl
    · rw [lim_pos h]; simp only [val]; rw [ih _ (by omega)]; omega
theorem sig_lim (n : Nat) : sig (lim n) = (lim n).length := by
  induction n using Nat.strongRecOn with
  | _ n ih =>
    by_cases h : n = 0
    · subst h; rw [lim_zero]; rfl
    · rw [lim_pos h]
      have h1 := ih (n / 65536) (by omega)
      simp only [sig, List.length_cons, h1]
      split
      · rename_i h0
        have h2 : lim (n / 65536) = [] := List.eq_nil_of_length_eq_zero h0
        have h3 := val_lim (n / 65536); rw [h2] at h3; simp [val] at h3
        split <;> simp [h2] <;> omega
      · rfl
/-- A list without a digit 0 at its end is told by its value. -/
theorem lim_val {xs : List Int} (hu : U16s xs) (h : sig xs = xs.length) : lim (val xs).toNat = xs := by
  induction xs with
  | nil => simp [val, lim_zero]
  | cons x xs ih =>
    have hx := hu.head; unfold U16 at hx
    have hv := val_nonneg hu.tail
    have h2 : sig xs = xs.length := by
      simp only [sig, List.length_cons] at h
      split at h
      · rename_i h0; split at h <;> omega
      · omega
    have hne : (val (x :: xs)).toNat ≠ 0 := by
      intro h0
      have : val (x :: xs) = 0 := by have := val_nonneg hu; omega
      have := sig0_of_val hu this
      simp at h; omega
    rw [lim_pos hne]
    have e1 : (val (x :: xs)).toNat % 65536 = x.toNat := by simp only [val]; omega
    have e2 : (val (x :: xs)).toNat / 65536 = (val xs).toNat := by simp only [val]; omega
    rw [e1, e2, ih hu.tail h2]; congr 1; omega
theorem take_sig_lim {xs : List Int} (hu : U16s xs) : xs.take (sig xs) = lim (val xs).toNat := by
  have := lim_val (hu.take (sig xs)) (by rw [sig_take]; simp; have := sig_le xs; omega)
  rw [val_take_sig] at this; exact this.symm
theorem lim_len_le {n : Nat} {k : Nat} (h : (n : Int) < 65536 ^ k) : (lim n).length ≤ k := by
  induction k generalizing n with
  | zero => have : n = 0 := by simp at h; omega
            subst this; simp [lim_zero]
  | succ k ih =>
    by_cases h0 : n = 0
    · subst h0; simp [lim_zero]
    · rw [lim_pos h0, List.length_cons]
      have : ((n / 65536 : Nat) : Int) < 65536 ^ k := by rw [pow_succ16] at h; omega
      have := ih this; omega

theorem pow_mono {i j : Nat} (h : i ≤ j) : (65536 : Int) ^ i ≤ 65536 ^ j := by
  induction j with
  | zero => have : i = 0 := by omega
            subst this; exact Int.le_refl _
  | succ j ih =>
    by_cases hj : i = j + 1
    · subst hj; exact Int.le_refl _
    · have h1 := ih (by omega); have h2 := pow_pos16 j; rw [pow_succ16]; omega
theorem lim_fits {n : Int} {k : Nat} (h0 : 0 ≤ n) (h : n < 65536 ^ k) : (lim n.toNat).length ≤ k := lim_len_le (by rw [Int.toNat_of_nonneg h0]; exact h)
theorem val_limI {n : Int} (h0 : 0 ≤ n) : val (lim n.toNat) = n := by rw [val_lim, Int.toNat_of_nonneg h0]
theorem len_val {n : Nat} : ((lim n).length = 0) ↔ n = 0 := by
  constructor
  · intro h
    have h1 := val_lim n
    rw [List.eq_nil_of_length_eq_zero h] at h1; simp [val] at h1; omega
  · rintro rfl; rfl
theorem sig_tail {x : Int} {xs : List Int} (h : sig (x :: xs) = (x :: xs).length) : sig xs = xs.length := by
  simp only [sig, List.length_cons] at h
  split at h
  · rename_i h0; split at h <;> omega
  · omega
theorem val_snoc (xs : List Int) (x : Int) : val (xs ++ [x]) = val xs + 65536 ^ xs.length * x := by rw [val_append]; simp [val]
theorem take_snoc (xs : List Int) {i : Nat} (h : i < xs.length) : xs.take (i + 1) = xs.take i ++ [xs.getD i 0] := by
  rw [List.take_add_one, List.getElem?_eq_getElem h]; simp [List.getD, List.getElem?_eq_getElem h]
theorem val_take_succ (xs : List Int) (i : Nat) : val (xs.take (i + 1)) = val (xs.take i) + 65536 ^ i * xs.getD i 0 := by
  by_cases h : i < xs.length
  · rw [take_snoc xs h, val_snoc]; rw [List.length_take, Nat.min_eq_left (by omega)]
  · rw [List.take_of_length_le (by omega), List.take_of_length_le (by omega)]; simp [List.getD, List.getElem?_eq_none (Nat.le_of_not_lt h)]
theorem val_ext : ∀ (xs ys : List Int), (∀ j, xs.getD j 0 = ys.getD j 0) → val xs = val ys
  | [], [], _ => rfl
  | x :: xs, [], h => by
    have h0 := h 0; have := val_ext xs [] (fun j => by simpa using h (j + 1)); simp at h0; simp [val] at this ⊢; omega
  | [], y :: ys, h => by
    have h0 := h 0; have := val_ext [] ys (fun j => by simpa using h (j + 1)); simp at h0; simp [val] at this ⊢; omega
  | x :: xs, y :: ys, h => by
    have h0 := h 0; have := val_ext xs ys (fun j => by simpa using h (j + 1)); simp at h0; simp [val]; omega
theorem getD_tail (xs : List Int) (j : Nat) : xs.tail.getD j 0 = xs.getD (j + 1) 0 := by cases xs <;> simp
theorem val_head_tail (xs : List Int) : val xs = xs.getD 0 0 + 65536 * val xs.tail := by cases xs <;> simp [val]
theorem U16s.tl {xs : List Int} (h : U16s xs) : U16s xs.tail := fun y hy => h y (List.mem_of_mem_tail hy)
theorem val_lt_of (i : Nat) : ∀ (xs ys : List Int), U16s xs → U16s ys → (∀ j, i < j → xs.getD j 0 = ys.getD j 0) → xs.getD i 0 < ys.getD i 0 → val xs < val ys := by
  induction i with
  | zero =>
    intro xs ys ux uy h hlt
    have := val_ext xs.tail ys.tail (fun j => by rw [getD_tail, getD_tail]; exact h (j + 1) (by omega))
    rw [val_head_tail xs, val_head_tail ys]; omega
  | succ i ih =>
    intro xs ys ux uy h hlt
    have := ih xs.tail ys.tail ux.tl uy.tl (fun j hj => by rw [getD_tail, getD_tail]; exact h (j + 1) (by omega)) (by rw [getD_tail, getD_tail]; exact hlt)
    have h1 := ux.at 0; have h2 := uy.at 0
    unfold U16 at h1 h2
    rw [val_head_tail xs, val_head_tail ys]; omega
end Go.Proofs.Ytkdclocjijmgpaa.D
namespace Go.Proofs.Ytkdclocjijmgpaa
def split : List Int → List Int
  | [] => []
  | x :: xs => x % 65536 :: x / 65536 :: split xs
theorem split_length (xs : List Int) : (split xs).length = 2 * xs.length := by
  induction xs with
  | nil => rfl
  | cons x xs ih => simp only [split, List.length_cons, ih]; omega
theorem split_val (xs : List Int) : D.val (split xs) = val xs := by
  induction xs with
  | nil => rfl
  | cons x xs ih => simp only [split, D.val, val, ih]; omega
theorem split_u16 {xs : List Int} (h : U32s xs) : D.U16s (split xs) := by
  induction xs with
  | nil => exact D.U16s.nil
  | cons x xs ih =>
    have hx := h.head; unfold U32 at hx
    exact D.U16s.cons ⟨by omega, by omega⟩ (D.U16s.cons ⟨by omega, by omega⟩ (ih h.tail))
theorem split_append (xs ys : List Int) : split (xs ++ ys) = split xs ++ split ys := by
  induction xs with
  | nil => rfl
  | cons x xs ih => simp only [List.cons_append, split, ih]
theorem split_snoc (xs : List Int) {i : Nat} (h : i < xs.length) : split (xs.take (i + 1)) = split (xs.take i) ++ [xs.getD i 0 % 65536, xs.getD i 0 / 65536] := by
  rw [D.take_snoc xs h, split_append]; rfl
def join : List Int → List Int
  | [] => []
  | [d] => [d]
  | d :: e :: r => (d + 65536 * e) :: join r
theorem join_val (n : Nat) : ∀ ds : List Int, ds.length ≤ n → val (join ds) = D.val ds := by
  induction n with
  | zero => intro ds h; have : ds = [] := List.eq_nil_of_length_eq_zero (by omega); subst this; rfl
  | succ n ih =>
    intro ds h
    match ds with
    | [] => rfl
    | [d] => simp [join, val, D.val]
    | d :: e :: r => simp only [join, val, D.val]; rw [ih r (by simp at h; omega)]; omega
theorem join_u32 (n : Nat) : ∀ ds : List Int, ds.length ≤ n → D.U16s ds → U32s (join ds) := by
  induction n with
  | zero => intro ds h _; have : ds = [] := List.eq_nil_of_length_eq_zero (by omega); subst this; exact U32s.nil
  | succ n ih =>
    intro ds h hu
    match ds with
    | [] => exact U32s.nil
    | [d] => have := hu.head; unfold D.U16 at this; exact U32s.cons ⟨by omega, by omega⟩ U32s.nil
    | d :: e :: r =>
      have h1 := hu.head; have h2 := hu.tail.head; unfold D.U16 at h1 h2
      exact U32s.cons ⟨by omega, by omega⟩ (ih r (by simp at h; omega) hu.tail.tail)
theorem join_sig (n : Nat) : ∀ ds : List Int, ds.length ≤ n → D.U16s ds → D.sig ds = ds.length → sig (join ds) = (join ds).length := by
  induction n with
  | zero => intro ds h _ _; have : ds = [] := List.eq_nil_of_length_eq_zero (by omega); subst this; rfl
  | succ n ih =>
    intro ds h hu hs
    match ds with
    | [] => rfl
    | [d] =>
      simp only [D.sig, List.length_cons, List.length_nil] at hs
      simp only [join, sig, List.length_cons, List.length_nil]
      by_cases hd : d = 0
      · simp [hd] at hs
      · simp [hd]
    | d :: e :: r =>
      have h1 := hu.head; have h2 := hu.tail.head; unfold D.U16 at h1 h2
      have hr : D.sig r = r.length := by
        exact D.sig_tail (D.sig_tail hs)
      have hj := ih r (by simp at h; omega) hu.tail.tail hr
      simp only [join, sig, List.length_cons, hj]
      split
      · rename_i h0
        have hr0 : r = [] := by
          match r with
          | [] => rfl
          | [x] => simp [join] at h0
          | x :: y :: z => simp [join] at h0
        subst hr0
        have he : e ≠ 0 := by
          intro he
          have := D.sig_tail hs
          simp [D.sig, he] at this
        rw [if_neg (by omega)]; omega
      · rfl
theorem join_lim (n : Nat) : join (D.lim n) = lim n := by
  have hu := join_u32 _ (D.lim n) (Nat.le_refl _) (D.lim_u16 n)
  have hs := join_sig _ (D.lim n) (Nat.le_refl _) (D.lim_u16 n) (D.sig_lim n)
  have hv := join_val _ (D.lim n) (Nat.le_refl _)
  have := lim_val hu hs
  rw [hv, D.val_lim] at this; simpa using this.symm
theorem join_snoc (k : Nat) : ∀ ds : List Int, 2 * k < ds.length → join (ds.take (2 * (k + 1))) = join (ds.take (2 * k)) ++ [ds.getD (2 * k) 0 + 65536 * ds.getD (2 * k + 1) 0] := by
  induction k with
  | zero =>
    intro ds h
    match ds with
    | [d] => simp [join]
    | d :: e :: r => simp [join]
  | succ k ih =>
    intro ds h
    match ds with
    | [d] => simp at h
    | d :: e :: r =>
      have := ih r (by simp at h; omega)
      have e1 : 2 * (k + 1 + 1) = 2 * (k + 1) + 2 := by omega
      have e2 : 2 * (k + 1) = 2 * k + 2 := by omega
      rw [e1, e2, List.take_succ_cons, List.take_succ_cons, List.take_succ_cons, List.take_succ_cons]
      simp only [join, List.cons_append]
      rw [show 2 * k + 2 = 2 * (k + 1) by omega, this]
      simp [show 2 * (k + 1) = 2 * k + 1 + 1 by omega]
theorem join_length_le (n : Nat) : ∀ ds : List Int, ds.length ≤ n → (join ds).length ≤ ds.length := by
  induction n with
  | zero => intro ds h; have : ds = [] := List.eq_nil_of_length_eq_zero (by omega); subst this; simp [join]
  | succ n ih =>
    intro ds h
    match ds with
    | [] => simp [join]
    | [d] => simp [join]
    | d :: e :: r => have := ih r (by simp at h; omega); simp only [join, List.length_cons]; omega
end Go.Proofs.Ytkdclocjijmgpaa
/-
  The walk of Bytes.
-/
namespace Go.Proofs.Ytkdclocjijmgpaa.Nt
open Go.RowKit

/-- Bytes and an error, as two results. -/
def Own8 (B : Nat) (w : World) (v : Value) (bs : List Int) : Prop := (v = .slice none 0 0 ∧ bs = []) ∨ ∃ b, v = .slice (some ⟨b, 0, none⟩) bs.length bs.length ∧ B ≤ b ∧ Arr .u8 5 w b bs
def Two8 (B : Nat) (w : World) (e : Ending) (s : List Int × Int) : Prop := ∃ r, e = .returned (.tuple #[r, .int .i64 s.2]) ∧ Own8 B w r s.1 ∧ (s.2 = 0 → r ≠ .slice none 0 0)
theorem Two8.nil' {B : Nat} {w : World} {n : Int} {s : List Int × Int} (hs : s = ([], n)) (hn : n ≠ 0) : Two8 B w (.returned (.tuple #[.slice none 0 0, .int .i64 n])) s := by
  subst hs; exact ⟨_, rfl, .inl ⟨rfl, rfl⟩, fun h => absurd h hn⟩
theorem Two8.mk' {B : Nat} {w : World} {r : Value} {n : Int} {bs : List Int} {s : List Int × Int} (h : Own8 B w r bs) (hs : s = (bs, n)) (hr : r ≠ .slice none 0 0) : Two8 B w (.returned (.tuple #[r, .int .i64 n])) s := by
  subst hs; exact ⟨r, rfl, h, fun _ => hr⟩
theorem Own8.sl {B : Nat} {w : World} {v : Value} {bs : List Int} (h : Own8 B w v bs) : Sl .u8 w v bs := by
  rcases h with ⟨rfl, rfl⟩ | ⟨b, rfl, _, hA⟩
  · exact ⟨none, 0, rfl, Nat.le_refl _, .inl rfl⟩
  · exact ⟨_, _, rfl, Nat.le_refl _, .inr ⟨b, 0, rfl, hA.lt, by have := hA.rd 0 bs.length (by omega); rw [List.drop_zero, List.take_length] at this; exact this⟩⟩

end Go.Proofs.Ytkdclocjijmgpaa.Nt
/-
  The walks of Same, SameBytes, num; literals in memory.
-/
namespace Go.Proofs.Ytkdclocjijmgpaa.Nt
open Go.RowKit

set_option maxHeartbeats 1000000 in
theorem Same_any {w : World} (v u : Value) (xs : List Int) (hx : Sl .u32 w v xs) (hy : Sl .u32 w u xs) (lx : xs.length ≤ 1152921504606846976) :
    Calls Try.prog 39 #[v, u] w fun e w' => e = .returned (.bool true) ∧ Below w.heap.size w w' := by
  obtain ⟨a1, c1, rfl, hc1, h1⟩ := hx
  obtain ⟨a2, c2, rfl, hc2, h2⟩ := hy
  by_cases hne : xs = []
  · subst hne
    simp only [List.length_nil]
    go_enter Try.func39, Try.ntmps39
    go_wp2
    go_loop [5] (fun i => i = .int .i64 0) (fun _ => 0)
    case atStart => rfl
    case round =>
      subst hrel
      go_wp2
      go_ret
      exact ⟨rfl, Below.refl _ _⟩
  · rcases h1 with h1 | ⟨b1, o1, rfl, hb1, hr1⟩
    · exact absurd h1 hne
    rcases h2 with h2 | ⟨b2, o2, rfl, hb2, hr2⟩
    · exact absurd h2 hne
    obtain ⟨n, hn⟩ : ∃ n, xs.length = n := ⟨_, rfl⟩
    rw [hn] at lx hc1 hc2 ⊢
    have HN : Hid (xs.length = n) := hn
    clear hn hne
    go_enter Try.func39, Try.ntmps39
    go_wp2
    go_loopw [5] (fun i wr => ∃ k : Nat, k ≤ n ∧ i = .int .i64 k ∧ Below w.heap.size w wr) (fun i _ => n - (intOf i).toNat)
    case atStart => exact ⟨0, Nat.zero_le _, rfl, Below.refl _ _⟩
    case round =>
      obtain ⟨k, hk, rfl, hB⟩ := hrel
      by_cases hkn : k < n
      · obtain ⟨x, hx⟩ : ∃ x, xs.getD k 0 = x := ⟨_, rfl⟩
        have hcx : wr.cell? ⟨b1, o1 + k, none⟩ = some (.int .u32 x) := by rw [← hx]; exact (below_rd hB hb1 hr1) k (by rw [HN.out]; exact hkn)
        have hcy : wr.cell? ⟨b2, o2 + k, none⟩ = some (.int .u32 x) := by rw [← hx]; exact (below_rd hB hb2 hr2) k (by rw [HN.out]; exact hkn)
        have HB : Hid (Below w.heap.size w wr) := hB
        clear hx hB hr1 hr2
        go_wp2
        go_quiet (fail)
        go_wp2
        go_roundw
        case rel => exact ⟨k + 1, by omega, by go_num, HB.out.trans ⟨rfl, rfl, rfl, Nat.le_refl _, fun _ _ => rfl⟩⟩
        case measure => simp [intOf]; omega
      · have HB : Hid (Below w.heap.size w wr) := hB
        clear hB
        go_wp2
        go_ret
        exact ⟨rfl, HB.out⟩

theorem arr_new {k : IntKind} {e : TypeId} {w : World} {b : Nat} {cs : Array Value} {xs : List Int} (hb : b = w.heap.size) (h : cs = (xs.map (Value.int k)).toArray) : Arr k e (w.alloc (.cells cs e)) b xs := by
  subst hb; subst h; unfold Arr; rw [heap_alloc_new]
theorem al1 {k : IntKind} {w : World} {v : Value} {xs : List Int} {o : Obj} (h : Sl k w v xs) : Sl k (w.alloc o) v xs := below_sl ((Below.refl _ _).alloc (Nat.le_refl _) o) h
theorem grow0 {a w w' : World} (h : Below a.heap.size a w) (hB : Below w.heap.size w w') : Below a.heap.size a w' := h.trans (hB.mono h.size)
theorem al {a w : World} {o : Obj} (h : Below a.heap.size a w) : Below a.heap.size a (w.alloc o) := h.alloc h.size o
theorem u1 {x : Int} (h : 0 ≤ x) (h' : x < 4294967296) : U32s [x] := U32s.cons ⟨h, h'⟩ U32s.nil
theorem u2 {x y : Int} (h : 0 ≤ x) (h' : x < 4294967296) (k : 0 ≤ y) (k' : y < 4294967296) : U32s [x, y] := U32s.cons ⟨h, h'⟩ (u1 k k')
theorem u3 {x y z : Int} (h : 0 ≤ x) (h' : x < 4294967296) (k : 0 ≤ y) (k' : y < 4294967296) (j : 0 ≤ z) (j' : z < 4294967296) : U32s [x, y, z] := U32s.cons ⟨h, h'⟩ (u2 k k' j j')

/-! ### the page's examples, one by one -/
end Go.Proofs.Ytkdclocjijmgpaa.Nt
/-
  append onto a slice that lies in a whole block of its own (or is nil), from whatever source, in the words of Base.
-/
namespace Go.Proofs.Ytkdclocjijmgpaa.Nt
open Go.RowKit

/-- A slice of the call's own: memory from block B on, the head of a whole block of numbers, or nil; it reads xs. -/
def Row (k : IntKind) (e : TypeId) (B : Nat) (w : World) (v : Value) (xs : List Int) : Prop :=
  (v = .slice none 0 0 ∧ xs = []) ∨ ∃ b S, v = .slice (some ⟨b, 0, none⟩) xs.length S.length ∧ B ≤ b ∧ Arr k e w b S ∧ xs.length ≤ S.length ∧ S.take xs.length = xs ∧ S.length ≤ maxLen
/-- What an append has done: only new memory, or the spare room of v's block has been written. -/
def Grew (k : IntKind) (e : TypeId) (w w' : World) (v : Value) (ys : List Int) : Prop :=
  Below w.heap.size w w' ∨ ∃ b n S, v = .slice (some ⟨b, 0, none⟩) n S.length ∧ Arr k e w b S ∧ Upd w w' b ∧ n + ys.length ≤ S.length ∧ Arr k e w' b (S.take n ++ ys ++ S.drop (n + ys.length))

theorem Row.nil (k : IntKind) (e : TypeId) (B : Nat) (w : World) : Row k e B w (.slice none 0 0) [] := .inl ⟨rfl, rfl⟩
theorem Row.sl {k : IntKind} {e : TypeId} {B : Nat} {w : World} {v : Value} {xs : List Int} (h : Row k e B w v xs) : Sl k w v xs := by
  rcases h with ⟨rfl, rfl⟩ | ⟨b, S, rfl, _, hA, hl, ht, _⟩
  · exact ⟨none, 0, rfl, Nat.le_refl _, .inl rfl⟩
  · refine ⟨_, _, rfl, hl, .inr ⟨b, 0, rfl, hA.lt, ?_⟩⟩
    have := hA.rd 0 xs.length (by omega)
    rw [List.drop_zero, ht] at this; exact this
theorem Row.below {k : IntKind} {e : TypeId} {B : Nat} {w w' : World} {v : Value} {xs : List Int} (h : Row k e B w v xs) (hb : Below w.heap.size w w') : Row k e B w' v xs := by
  rcases h with h | ⟨b, S, rfl, h1, hA, h2⟩
  · exact .inl h
  · exact .inr ⟨b, S, rfl, h1, below_arr hb hA.lt hA, h2⟩
theorem Row.mono {k : IntKind} {e : TypeId} {B B' : Nat} {w : World} {v : Value} {xs : List Int} (h : Row k e B w v xs) (hb : B' ≤ B) : Row k e B' w v xs := by
  rcases h with h | ⟨b, S, rfl, h1, h2⟩
  · exact .inl h
  · exact .inr ⟨b, S, rfl, by omega, h2⟩
theorem Row.ne {k : IntKind} {e : TypeId} {B : Nat} {w : World} {v : Value} {xs : List Int} (h : Row k e B w v xs) : ∃ a c, v = .slice a xs.length c := by
  rcases h with ⟨rfl, rfl⟩ | ⟨b, S, rfl, _⟩
  · exact ⟨_, _, rfl⟩
  · exact ⟨_, _, rfl⟩
theorem Row.open {k : IntKind} {e : TypeId} {B : Nat} {w : World} {v : Value} {xs : List Int} (h : Row k e B w v xs) (n : Nat) (hn : xs.length = n) (h0 : 0 < n) :
    ∃ b S, v = .slice (some ⟨b, 0, none⟩) n S.length ∧ B ≤ b ∧ Arr k e w b S ∧ n ≤ S.length ∧ S.take n = xs ∧ S.length ≤ maxLen := by
  subst hn
  rcases h with ⟨_, rfl⟩ | h
  · simp at h0
  · exact h
theorem Row.arr {k : IntKind} {e : TypeId} {B : Nat} {w : World} {b : Nat} {S : List Int} (h : Arr k e w b S) (hB : B ≤ b) (hl : S.length ≤ maxLen) : Row k e B w (.slice (some ⟨b, 0, none⟩) S.length S.length) S :=
  .inr ⟨b, S, rfl, hB, h, Nat.le_refl _, List.take_length, hl⟩
theorem Row.alloc {k : IntKind} {e : TypeId} {B : Nat} {w : World} {v : Value} {xs : List Int} (h : Row k e B w v xs) (o : Obj) : Row k e B (w.alloc o) v xs :=
  h.below ((Below.refl _ _).alloc (Nat.le_refl _) o)
theorem Grew.below {k : IntKind} {e : TypeId} {B : Nat} {w w' : World} {v : Value} {xs ys : List Int} (h : Grew k e w w' v ys) (hr : Row k e B w v xs) (hB : B ≤ w.heap.size) : Below B w w' := by
  rcases h with h | ⟨b, n, S, rfl, _, hU, _⟩
  · exact h.mono hB
  · rcases hr with ⟨h, _⟩ | ⟨b', S', h, hb, _⟩
    · cases h
    · simp only [Value.slice.injEq, Option.some.injEq, Addr.mk.injEq, and_true] at h
      obtain ⟨rfl, _, _⟩ := h
      exact hU.below (Below.refl _ _) hB hb

theorem src_sl {P : Program} {tx e' : TypeId} (hk : P.underlying tx = some (.slice e')) {k : IntKind} {w : World} {v : Value} {ys : List Int} (h : Sl k w v ys) : Src P 1 tx v ys.length (ys.map (Value.int k)) w := by
  obtain ⟨a, c, rfl, hc, h⟩ := h
  have ho : ∀ u ∈ ys.map (Value.int k), u.oneCell' = true := by intro u hu; obtain ⟨x, _, rfl⟩ := List.mem_map.1 hu; rfl
  rcases h with rfl | ⟨b, off, rfl, hb, hr⟩
  · cases a with
    | none => exact Src.ofNil w hk c
    | some a => exact Src.ofSlice w hk a 0 c [] (by simp) (by simp) (by simp)
  · refine Src.ofSlice w hk _ _ _ _ (by simp) (fun j u hj => ?_) ho
    have hl : j < ys.length := by have := (List.getElem?_eq_some_iff.1 hj).1; simpa using this
    have hadd : (⟨b, off, none⟩ : Addr).add j = ⟨b, off + j, none⟩ := by simp [Addr.add]
    rw [hadd, hr j hl, ← hj]; simp [hl]

theorem run_ap {P : Program} (w : World) (t tx ty e : TypeId) (i : TypeInfo) (k : IntKind) (ht : P.underlying t = some (.slice e)) (hi : P.info? e = some i) (hz : i.zero = some (.int k 0)) (hsize : i.size = 1) (hby : 0 < i.bytes)
    {B : Nat} {v : Value} {xs : List Int} (hr : Row k e B w v xs) {x : Value} {ys : List Int} (hs : Src P 1 tx x ys.length (ys.map (Value.int k)) w)
    (hb : (xs.length + ys.length) * i.bytes ≤ 140737488355328) (hB : B ≤ w.heap.size) :
    ∃ v' w', (Builtin.append_ #[t, tx] ty #[v, x]).run P w = .ok v' w' ∧ Row k e B w' v' (xs ++ ys) ∧ Grew k e w w' v ys := by
  have hle : xs.length + ys.length ≤ 140737488355328 := Nat.le_trans (Nat.le_mul_of_pos_right _ hby) hb
  have hs1 : Src P i.size tx x ys.length (ys.map (Value.int k)) w := by rw [hsize]; exact hs
  have grown : ∀ (base : Option Addr) (old : Nat), old < xs.length + ys.length → (Builtin.firstCells i.size xs.length (.slice base xs.length old)).run P w.drew = .ok (xs.map (Value.int k)).toArray w.drew →
      ∃ v' w', (Builtin.append_ #[t, tx] ty #[.slice base xs.length old, x]).run P w = .ok v' w' ∧ Row k e B w' v' (xs ++ ys) ∧ Grew k e w w' (.slice base xs.length old) ys := by
    intro base old ho hold
    have h1 := run_append_grow_src (P := P) w t tx ty e i (.int k 0) ht hi hz base xs.length old _ hold x ys.length _ hs1 ho (by omega) (growslice_fits (by omega) hb)
    refine ⟨_, _, h1, ?_, .inl ((Below.refl _ _).drew.alloc (Nat.le_refl _) _)⟩
    have hge := grownCap_ge w (xs.length + ys.length) old e
    have hcm : grownCap w (xs.length + ys.length) old e ≤ maxLen := grownCap_le_maxLen w _ old e (by unfold maxLen; omega)
    obtain ⟨C, hC⟩ : ∃ C, grownCap w (xs.length + ys.length) old e = xs.length + ys.length + C := ⟨_, (Nat.add_sub_of_le hge).symm⟩
    rw [hC] at hcm ⊢
    have hzc : Builtin.zeroCells (Value.cells (.int k 0)) C = (List.replicate C (.int k 0)).toArray := by
      apply Array.ext'
      simp only [Builtin.zeroCells, Value.cells]
      simp
      rw [List.eq_replicate_iff]
      exact ⟨by simp, fun y hy => by obtain ⟨j, _, rfl⟩ := List.mem_map.1 hy; simp [Nat.mod_one]⟩
    refine .inr ⟨w.heap.size, xs ++ ys ++ List.replicate C 0, ?_, hB, ?_, by simp, List.take_left, by simp; omega⟩
    · simp; omega
    · unfold Arr
      rw [show xs.length + ys.length + C - (xs.length + ys.length) = C by omega, hzc]
      have := heap_alloc_new w.drew (.cells ((xs.map (Value.int k) ++ ys.map (Value.int k)).toArray ++ (List.replicate C (Value.int k 0)).toArray) e)
      simp only [List.map_append, List.map_replicate]
      rw [show (w.drew.heap.size) = w.heap.size from rfl] at this
      rw [this]; simp
  rcases hr with ⟨rfl, rfl⟩ | ⟨b, S, rfl, hBb, hA, hl, htk, hm⟩
  · by_cases h0 : ys.length = 0
    · have hy : ys = [] := List.eq_nil_of_length_eq_zero h0
      subst hy
      refine ⟨.slice none 0 0, w, ?_, .inl ⟨rfl, rfl⟩, .inl (Below.refl _ _)⟩
      have h1 := hs1.cells
      have h2 := hs1.len
      simp only [List.length_nil, List.map_nil] at h1 h2
      rcases hs1.kind with ⟨e', hk⟩ | hk
      · simp [Builtin.append_, run_underlying ht, run_underlying hk, sizeOf, typeInfo, hi, h2, h1]
      · simp [Builtin.append_, run_underlying ht, run_underlying hk, sizeOf, typeInfo, hi, h2, h1]
    · exact grown none 0 (by simp; omega) (run_firstCells_none w.drew i.size 0 0 0)
  · by_cases hroom : xs.length + ys.length ≤ S.length
    · have hst := run_storeCells_at P b (xs.length * i.size) e (ys.map (Value.int k)) 0 _ w hA (by simp [hsize]; omega) hs1.one
      simp only [Nat.add_zero] at hst
      have hrun : (Builtin.append_ #[t, tx] ty #[.slice (some ⟨b, 0, none⟩) xs.length S.length, x]).run P w = .ok (.slice (some ⟨b, 0, none⟩) (xs.length + ys.length) S.length) (w.setRow b (((S.map (Value.int k)).toArray.toList.take (xs.length * i.size)) ++ ys.map (Value.int k) ++ ((S.map (Value.int k)).toArray.toList.drop (xs.length * i.size + (ys.map (Value.int k)).length))).toArray) := by
        rcases hs1.kind with ⟨e', hk⟩ | hk <;> simp [Builtin.append_, run_underlying ht, run_underlying hk, sizeOf, typeInfo, hi, hs1.len, hroom, hs1.cells, Addr.add_lit, hst]
      have hA' : Arr k e (w.setRow b (((S.map (Value.int k)).toArray.toList.take (xs.length * i.size)) ++ ys.map (Value.int k) ++ ((S.map (Value.int k)).toArray.toList.drop (xs.length * i.size + (ys.map (Value.int k)).length))).toArray) b (S.take xs.length ++ ys ++ S.drop (xs.length + ys.length)) := by
        unfold Arr
        rw [setRow_heap w b _ _ e _ hA]
        simp [hsize, List.map_take, List.map_drop]
      have hlen : (S.take xs.length ++ ys ++ S.drop (xs.length + ys.length)).length = S.length := by simp; omega
      refine ⟨_, _, hrun, .inr ⟨b, _, ?_, hBb, hA', ?_, ?_, ?_⟩, .inr ⟨b, xs.length, S, rfl, hA, ⟨rfl, rfl, rfl, by simp [World.setRow], fun j _ hj => setRow_other w b j _ (fun e => hj (by simp [e]))⟩, hroom, hA'⟩⟩
      · rw [hlen]; simp
      · rw [hlen]; simp; omega
      · rw [htk]; exact List.take_left
      · rw [hlen]; exact hm
    · refine grown (some ⟨b, 0, none⟩) S.length (by omega) (run_firstCells_some w.drew i.size xs.length ⟨b, 0, none⟩ xs.length S.length _ (by simp [hsize]) (fun j u hj => ?_))
      have hj' : j < xs.length := by have := (List.getElem?_eq_some_iff.1 hj).1; simpa using this
      have hadd : (⟨b, 0, none⟩ : Addr).add j = ⟨b, j, none⟩ := by simp [Addr.add]; try omega
      have := hA.cell j (by omega)
      rw [hadd]
      have e1 : (w.drew).cell? ⟨b, j, none⟩ = w.cell? ⟨b, j, none⟩ := rfl
      rw [e1, this, ← hj]
      have e2 : S.getD j 0 = xs.getD j 0 := by
        have : (S.take xs.length).getD j 0 = S.getD j 0 := by simp [List.getD, hj']
        rw [← this, htk]
      rw [e2]; simp [hj']

theorem wpList_ap {P : Program} {w : World} {ops : Array Oper} {rest : List Oper} {o : Oper} {a : Act} {Q : Exit → Act → World → Prop} (hgd : o.guard = none) (s x : Operand) (t tx : TypeId)
    (ho : o.op = .call { callee := .builtin .append, args := #[s, x], argTypes := #[t, tx] }) (k : IntKind) (e : TypeId) (bytes : Nat) (ht : P.underlying t = some (.slice e))
    (hi : (P.info? e).map (fun i => (i.zero, i.size, i.bytes)) = some (some (.int k 0), 1, bytes)) (hby : 0 < bytes)
    (B : Nat) (v : Value) (xs : List Int) (hs : a.eval s = v) (hr : Row k e B w v xs) (u : Value) (ys : List Int) (hx : a.eval x = u) (hy : Src P 1 tx u ys.length (ys.map (Value.int k)) w)
    (hb : (xs.length + ys.length) * bytes ≤ 140737488355328) (hB : B ≤ w.heap.size)
    (h : ∀ v' w', Row k e B w' v' (xs ++ ys) → Grew k e w w' v ys → wpList P ops Q rest (a.put o.dst v') w') : wpList P ops Q (o :: rest) a w := by
  obtain ⟨i0, hi0, hz0, hz1, hz2⟩ := info_parts hi
  refine wpList_plain hgd fun K hK => ?_
  obtain ⟨v', w', hrun, h2, h3⟩ := run_ap (P := P) w t tx o.type e i0 k ht hi0 hz0 hz1 (by omega) hr hy (by rw [hz2]; exact hb) hB
  unfold Oper.wp execOp
  simp only [ho, resolve, invoke, builtin, Sem.run_bind, Sem.run_pure, Result.andThen_ok, List.map_toArray, List.map_cons, List.map_nil, hs, hx, hrun]
  exact hK _ _ (h v' w' h2 h3)
/-- The same, as one step of a region that draws its order. -/
theorem step_ap {P : Program} {ops : Array Oper} {o : Oper} {a : Act} {w : World} {K : Act → World → Prop} {Q : Exit → Act → World → Prop} {E : Prop} (hgd : o.guard = none) (s x : Operand) (t tx : TypeId)
    (ho : o.op = .call { callee := .builtin .append, args := #[s, x], argTypes := #[t, tx] }) (k : IntKind) (e : TypeId) (bytes : Nat) (ht : P.underlying t = some (.slice e))
    (hi : (P.info? e).map (fun i => (i.zero, i.size, i.bytes)) = some (some (.int k 0), 1, bytes)) (hby : 0 < bytes)
    (B : Nat) (v : Value) (xs : List Int) (hs : a.eval s = v) (hr : Row k e B w v xs) (u : Value) (ys : List Int) (hx : a.eval x = u) (hy : Src P 1 tx u ys.length (ys.map (Value.int k)) w)
    (hb : (xs.length + ys.length) * bytes ≤ 140737488355328) (hB : B ≤ w.heap.size)
    (h : ∀ v' w', Row k e B w' v' (xs ++ ys) → Grew k e w w' v ys → K (a.put o.dst v') w') : if Region.wanted o (yielded ops a.tmps) = true then Oper.wp P o a w K Q else E := by
  have hw : Region.wanted o (yielded ops a.tmps) = true := by simp [Region.wanted, hgd]
  rw [if_pos hw]
  obtain ⟨i0, hi0, hz0, hz1, hz2⟩ := info_parts hi
  obtain ⟨v', w', hrun, h2, h3⟩ := run_ap (P := P) w t tx o.type e i0 k ht hi0 hz0 hz1 (by omega) hr hy (by rw [hz2]; exact hb) hB
  unfold Oper.wp execOp
  simp only [ho, resolve, invoke, builtin, Sem.run_bind, Sem.run_pure, Result.andThen_ok, List.map_toArray, List.map_cons, List.map_nil, hs, hx, hrun]
  exact h v' w' h2 h3
end Go.Proofs.Ytkdclocjijmgpaa.Nt
/-
  The walks of the reference's plain, digit, order: whatever the lists of digits.
-/
namespace Go.Proofs.Ytkdclocjijmgpaa.Nt
open Go.RowKit

set_option maxHeartbeats 400000 in
theorem plain_any (xs : List Int) (a : Option Addr) (c : Nat) (w : World) (h : Sl .u64 w (.slice a xs.length c) xs) (hl : xs.length ≤ 1152921504606846976) :
    Calls Try.prog 94 #[.slice a xs.length c] w fun e w' => e = .returned (.slice a (D.sig xs) c) ∧ w' = w := by
  have hc : xs.length ≤ c := by obtain ⟨_, _, h1, hc, _⟩ := h; cases h1; exact hc
  obtain ⟨a, c, hv, _, h1⟩ := h
  cases hv
  rcases h1 with rfl | ⟨b, off, rfl, hb, hr⟩
  · simp only [List.length_nil]
    go_enter Try.func94, Try.ntmps94
    go_wp2
    go_loop [3] (fun i => i = .int .i64 0) (fun _ => 0)
    case atStart => rfl
    case round =>
      subst hrel
      go_wp2
      go_ret
      exact ⟨by simp [D.sig], rfl⟩
  · go_enter Try.func94, Try.ntmps94
    go_wp2
    go_loop [3] (fun i => ∃ k : Nat, k ≤ xs.length ∧ i = .int .i64 k ∧ ∀ j, k ≤ j → j < xs.length → xs.getD j 0 = 0) (fun i => (intOf i).toNat)
    case atStart => exact ⟨xs.length, Nat.le_refl _, rfl, fun j h1 h2 => by omega⟩
    case round =>
      obtain ⟨k, hk, rfl, hz⟩ := hrel
      by_cases hk0 : k = 0
      · subst hk0
        have HS : Hid (D.sig xs = 0) := D.sig_eq (Nat.zero_le _) hz (.inl rfl)
        clear hz
        go_wp2
        go_ret
        exact ⟨by rw [HS.out]; rfl, rfl⟩
      · obtain ⟨m, rfl⟩ : ∃ m, k = m + 1 := ⟨k - 1, by omega⟩
        obtain ⟨x, hx⟩ : ∃ x, xs.getD m 0 = x := ⟨_, rfl⟩
        have hcell := hr m (by omega)
        rw [hx] at hcell
        have HZ : Hid (∀ j, m + 1 ≤ j → j < xs.length → xs.getD j 0 = 0) := hz
        have HX : Hid (xs.getD m 0 = x) := hx
        clear hz hx hr
        by_cases hx0 : x = 0
        · go_wp2
          go_round
          case rel => exact ⟨m, by omega, by go_num, fun j h1 h2 => by
            by_cases h3 : j = m
            · subst h3; rw [HX.out]; exact hx0
            · exact HZ.out j (by omega) h2⟩
          case measure => simp [intOf]
        · go_wp2
          go_ret
          exact ⟨by rw [D.sig_eq (k := m + 1) hk HZ.out (.inr (by intro h3; exact hx0 (HX.out.symm.trans h3)))]; rfl, rfl⟩
theorem plain_sl {w : World} (v : Value) (xs : List Int) (h : Sl .u64 w v xs) (hu : D.U16s xs) (hl : xs.length ≤ 1152921504606846976) (N : Int) (hN : D.val xs = N) :
    Calls Try.prog 94 #[v] w fun e w' => ∃ r, e = .returned r ∧ Sl .u64 w' r (D.lim N.toNat) ∧ w = w' := by
  subst hN
  have h0 := h
  obtain ⟨a, c, rfl, hc, h1⟩ := h
  refine (plain_any xs a c w h0 hl).mono ?_
  rintro e w' ⟨rfl, rfl⟩
  have hs := D.sig_le xs
  have e1 := D.take_sig_lim hu
  have e2 : (D.lim (D.val xs).toNat).length = D.sig xs := by rw [← e1]; simp; omega
  refine ⟨_, rfl, ⟨a, c, by rw [e2], by omega, ?_⟩, rfl⟩
  rcases h1 with rfl | ⟨b, off, rfl, hb, hr⟩
  · left; rfl
  · right; exact ⟨b, off, rfl, hb, by rw [← e1]; exact hr.take _⟩

/-- As Sl, in memory from block B on. -/
def SlN (k : IntKind) (B : Nat) (w : World) (v : Value) (xs : List Int) : Prop :=
  ∃ a c, v = .slice a xs.length c ∧ xs.length ≤ c ∧ (xs = [] ∨ ∃ b off, a = some ⟨b, off, none⟩ ∧ B ≤ b ∧ b < w.heap.size ∧ Rd k w b off xs)
theorem SlN.sl {k : IntKind} {B : Nat} {w : World} {v : Value} {xs : List Int} (h : SlN k B w v xs) : Sl k w v xs := by
  obtain ⟨a, c, hv, hc, h⟩ := h
  exact ⟨a, c, hv, hc, h.imp id fun ⟨b, off, ha, _, hb, hr⟩ => ⟨b, off, ha, hb, hr⟩⟩
theorem SlN.below {k : IntKind} {B : Nat} {w w' : World} {v : Value} {xs : List Int} (h : SlN k B w v xs) (hB : Below w.heap.size w w') : SlN k B w' v xs := by
  obtain ⟨a, c, hv, hc, h⟩ := h
  exact ⟨a, c, hv, hc, h.imp id fun ⟨b, off, ha, h1, hb, hr⟩ => ⟨b, off, ha, h1, Nat.lt_of_lt_of_le hb hB.size, below_rd hB hb hr⟩⟩
theorem SlN.mono {k : IntKind} {B B' : Nat} {w : World} {v : Value} {xs : List Int} (h : SlN k B w v xs) (hB : B' ≤ B) : SlN k B' w v xs := by
  obtain ⟨a, c, hv, hc, h⟩ := h
  exact ⟨a, c, hv, hc, h.imp id fun ⟨b, off, ha, h1, h2⟩ => ⟨b, off, ha, by omega, h2⟩⟩
theorem SlN.upd {k : IntKind} {B : Nat} {w w' : World} {v : Value} {xs : List Int} {b0 : Nat} (h : SlN k B w v xs) (hU : Upd w w' b0) (hlt : b0 < B) : SlN k B w' v xs := by
  obtain ⟨a, c, hv, hc, h⟩ := h
  exact ⟨a, c, hv, hc, h.imp id fun ⟨b, off, ha, h1, hb, hr⟩ => ⟨b, off, ha, h1, Nat.lt_of_lt_of_le hb hU.size, hU.rd hb hr (by omega)⟩⟩
theorem SlN.nil (k : IntKind) (B : Nat) (w : World) : SlN k B w (.slice none 0 0) [] := ⟨none, 0, rfl, Nat.le_refl _, .inl rfl⟩
theorem Row.sln {k : IntKind} {e : TypeId} {B : Nat} {w : World} {v : Value} {xs : List Int} (h : Row k e B w v xs) : SlN k B w v xs := by
  rcases h with ⟨rfl, rfl⟩ | ⟨b, S, rfl, hB, hA, hl, ht, _⟩
  · exact SlN.nil _ _ _
  · refine ⟨_, _, rfl, hl, .inr ⟨b, 0, rfl, hB, hA.lt, ?_⟩⟩
    have := hA.rd 0 xs.length (by omega)
    rw [List.drop_zero, ht] at this; exact this
theorem plain_new {w : World} {B : Nat} (v : Value) (xs : List Int) (h : SlN .u64 B w v xs) (hu : D.U16s xs) (hl : xs.length ≤ 1152921504606846976) (N : Int) (hN : D.val xs = N) :
    Calls Try.prog 94 #[v] w fun e w' => ∃ r, e = .returned r ∧ SlN .u64 B w' r (D.lim N.toNat) ∧ w = w' := by
  subst hN
  have h0 := h.sl
  obtain ⟨a, c, rfl, hc, h1⟩ := h
  refine (plain_any xs a c w h0 hl).mono ?_
  rintro e w' ⟨rfl, rfl⟩
  have hs := D.sig_le xs
  have e1 := D.take_sig_lim hu
  have e2 : (D.lim (D.val xs).toNat).length = D.sig xs := by rw [← e1]; simp; omega
  refine ⟨_, rfl, ⟨a, c, by rw [e2], by omega, ?_⟩, rfl⟩
  rcases h1 with rfl | ⟨b, off, rfl, hB, hb, hr⟩
  · left; rfl
  · right; exact ⟨b, off, rfl, hB, hb, by rw [← e1]; exact hr.take _⟩

theorem digit_any {w : World} (v : Value) (xs : List Int) (h : Sl .u64 w v xs) (hl : xs.length ≤ 1152921504606846976) (i : Int) (hi : -1152921504606846976 ≤ i ∧ i ≤ 1152921504606846976) (x : Int) (hx : (if 0 ≤ i then xs.getD i.toNat 0 else 0) = x) :
    Calls Try.prog 95 #[v, .int .i64 i] w fun e w' => e = .returned (.int .u64 x) ∧ w = w' := by
  obtain ⟨a, c, rfl, hc, h1⟩ := h
  by_cases hi0 : 0 ≤ i
  · obtain ⟨n, rfl⟩ : ∃ n : Nat, i = n := ⟨i.toNat, by omega⟩
    rw [if_pos hi0] at hx
    simp only [Int.toNat_natCast] at hx
    by_cases hn : n < xs.length
    · rcases h1 with rfl | ⟨b, off, rfl, hb, hr⟩
      · simp at hn
      · have hcell := hr n hn
        rw [hx] at hcell
        clear hx hr
        go_enter Try.func95, Try.ntmps95
        go_wp2
        go_ret
        exact ⟨rfl, rfl⟩
    · have hx0 : x = 0 := by rw [← hx]; simp [List.getD, List.getElem?_eq_none (Nat.le_of_not_lt hn)]
      subst hx0
      clear hx
      go_enter Try.func95, Try.ntmps95
      go_wp2
      go_ret
      exact ⟨rfl, rfl⟩
  · rw [if_neg hi0] at hx
    subst hx
    go_enter Try.func95, Try.ntmps95
    go_wp2
    go_ret
    exact ⟨rfl, rfl⟩
theorem digit_nat {w : World} (v : Value) (xs : List Int) (h : Sl .u64 w v xs) (hl : xs.length ≤ 1152921504606846976) (n : Nat) (hn : n ≤ 1152921504606846976) (x : Int) (hx : xs.getD n 0 = x) :
    Calls Try.prog 95 #[v, .int .i64 n] w fun e w' => e = .returned (.int .u64 x) ∧ w = w' :=
  digit_any v xs h hl n (by omega) x (by rw [if_pos (by omega)]; simpa using hx)

end Go.Proofs.Ytkdclocjijmgpaa.Nt
