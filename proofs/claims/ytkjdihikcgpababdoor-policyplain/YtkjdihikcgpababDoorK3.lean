/-
  Plain lists of limbs, and the words for memory that the walks use. No Go text in sight.
-/
import Derived.Test.YtkjdihikcgpababDoorRows
import Derived.WalkKit
import Derived.WalkSpells
import Derived.WalkLawsBesides
import Derived.Laws.CopyOwn
import Derived.Laws.OwnMore
import Derived.Test.YtkjdihikcgpababDoorK2
namespace Go.Proofs.YtkjdihikcgpababDoor
open Go.RowKit

/-! ### numbers as lists of limbs -/
def U32 (x : Int) : Prop := 0 ≤ x ∧ x < 4294967296
def U32s (xs : List Int) : Prop := ∀ x ∈ xs, U32 x
def val : List Int → Int
  | [] => 0
  | x :: xs => x + 4294967296 * val xs
def sig : List Int → Nat
  | [] => 0
  | x :: xs => if sig xs = 0 then (if x = 0 then 0 else 1) else sig xs + 1
def limF : Nat → Nat → List Int
  | 0, _ => []
  | f + 1, n => if n = 0 then [] else ((n % 4294967296 : Nat) : Int) :: limF f (n / 4294967296)
/-- The limbs of a number, the lowest first. -/
def lim (n : Nat) : List Int := limF n n

theorem U32s.at {xs : List Int} (h : U32s xs) (i : Nat) : U32 (xs.getD i 0) := by
  by_cases hi : i < xs.length
  · simp [hi]; exact h _ (List.getElem_mem hi)
  · simp [List.getD, List.getElem?_eq_none (Nat.le_of_not_lt hi), U32]
theorem U32s.nil : U32s [] := by intro x hx; simp at hx
theorem U32s.cons {x : Int} {xs : List Int} (h : U32 x) (hs : U32s xs) : U32s (x :: xs) := by
  intro y hy; rcases List.mem_cons.1 hy with rfl | hy
  · exact h
  · exact hs y hy
theorem U32s.head {x : Int} {xs : List Int} (h : U32s (x :: xs)) : U32 x := h x (by simp)
theorem U32s.tail {x : Int} {xs : List Int} (h : U32s (x :: xs)) : U32s xs := fun y hy => h y (by simp [hy])
theorem U32s.take {xs : List Int} (h : U32s xs) (n : Nat) : U32s (xs.take n) := fun y hy => h y (List.mem_of_mem_take hy)
theorem U32s.drop {xs : List Int} (h : U32s xs) (n : Nat) : U32s (xs.drop n) := fun y hy => h y (List.mem_of_mem_drop hy)
theorem U32s.append {xs ys : List Int} (h : U32s xs) (k : U32s ys) : U32s (xs ++ ys) := by
  intro y hy; rcases List.mem_append.1 hy with hy | hy
  · exact h y hy
  · exact k y hy
theorem U32s.set {xs : List Int} (h : U32s xs) (i : Nat) {x : Int} (hx : U32 x) : U32s (xs.set i x) := by
  intro y hy; rcases List.mem_or_eq_of_mem_set hy with hy | rfl
  · exact h y hy
  · exact hx
theorem U32s.zeros (n : Nat) : U32s (List.replicate n 0) := by
  intro y hy; rw [(List.mem_replicate.1 hy).2]; exact ⟨by decide, by decide⟩

theorem val_nonneg {xs : List Int} (h : U32s xs) : 0 ≤ val xs := by
  induction xs with
  | nil => simp [val]
  | cons x xs ih => have := ih h.tail; have := h.head.1; simp only [val]; omega
theorem pow_succ32 (n : Nat) : (4294967296 : Int) ^ (n + 1) = 4294967296 * 4294967296 ^ n := by rw [Int.pow_succ, Int.mul_comm]
theorem pow_pos32 (n : Nat) : (0 : Int) < 4294967296 ^ n := Int.pow_pos (by decide)
theorem val_lt {xs : List Int} (h : U32s xs) : val xs < 4294967296 ^ xs.length := by
  induction xs with
  | nil => simp [val]
  | cons x xs ih => have := ih h.tail; have h1 := h.head; unfold U32 at h1; simp only [val, List.length_cons, pow_succ32]; omega
theorem val_append (xs ys : List Int) : val (xs ++ ys) = val xs + 4294967296 ^ xs.length * val ys := by
  induction xs with
  | nil => simp [val]
  | cons x xs ih => simp only [List.cons_append, val, ih, List.length_cons, pow_succ32, Int.mul_add, Int.mul_assoc]; omega
theorem val_zeros (n : Nat) : val (List.replicate n 0) = 0 := by
  induction n with
  | zero => rfl
  | succ n ih => simp [List.replicate_succ, val, ih]
theorem sig_le (xs : List Int) : sig xs ≤ xs.length := by
  induction xs with
  | nil => simp [sig]
  | cons x xs ih => simp only [sig, List.length_cons]; split <;> (try split) <;> omega
theorem val_of_sig0 {xs : List Int} (h : sig xs = 0) : val xs = 0 := by
  induction xs with
  | nil => rfl
  | cons x xs ih =>
    simp only [sig] at h
    split at h
    · split at h
      · rename_i h1 h2; simp [val, h2, ih h1]
      · omega
    · omega
theorem sig0_of_val {xs : List Int} (hu : U32s xs) (h : val xs = 0) : sig xs = 0 := by
  induction xs with
  | nil => rfl
  | cons x xs ih =>
    have h1 := val_nonneg hu.tail; have h2 := hu.head; unfold U32 at h2
    simp only [val] at h
    have hv : val xs = 0 := by omega
    have hx : x = 0 := by omega
    simp [sig, ih hu.tail hv, hx]
theorem val_take_sig (xs : List Int) : val (xs.take (sig xs)) = val xs := by
  induction xs with
  | nil => rfl
  | cons x xs ih =>
    simp only [sig]
    split
    · rename_i h
      split
      · rename_i hx; simp [val, hx, val_of_sig0 h]
      · simp [val, val_of_sig0 h]
    · simp [val, ih]
/-- What 'length' finds is 'sig'. -/
theorem sig_eq {xs : List Int} {k : Nat} (hk : k ≤ xs.length) (h0 : ∀ j, k ≤ j → j < xs.length → xs.getD j 0 = 0) (h1 : k = 0 ∨ xs.getD (k - 1) 0 ≠ 0) : sig xs = k := by
  induction xs generalizing k with
  | nil => simp at hk; simp [sig, hk]
  | cons x xs ih =>
    cases k with
    | zero =>
      have hs : sig xs = 0 := ih (k := 0) (Nat.zero_le _) (fun j _ hj => by simpa using h0 (j + 1) (Nat.zero_le _) (by simpa using hj)) (.inl rfl)
      have hx : x = 0 := by simpa using h0 0 (Nat.le_refl _) (by simp)
      simp [sig, hs, hx]
    | succ k =>
      have hkl : k ≤ xs.length := by simpa using hk
      have hz : ∀ j, k ≤ j → j < xs.length → xs.getD j 0 = 0 := fun j hj hl => by simpa using h0 (j + 1) (by omega) (by simpa using hl)
      cases k with
      | zero =>
        have hs : sig xs = 0 := ih (k := 0) (Nat.zero_le _) hz (.inl rfl)
        have hx : x ≠ 0 := by simpa using h1
        simp [sig, hs, hx]
      | succ k =>
        have hs : sig xs = k + 1 := ih hkl hz (.inr (by simpa using h1))
        simp [sig, hs]
theorem sig_last {xs : List Int} (h : 0 < sig xs) : xs.getD (sig xs - 1) 0 ≠ 0 := by
  induction xs with
  | nil => simp [sig] at h
  | cons x xs ih =>
    simp only [sig] at h ⊢
    split
    · rename_i h1
      split
      · rename_i h2; simp [h1, h2] at h
      · rename_i h2; simpa using h2
    · rename_i h1
      have := ih (by omega)
      obtain ⟨m, hm⟩ : ∃ m, sig xs = m + 1 := ⟨sig xs - 1, by omega⟩
      rw [hm] at this ⊢
      simpa using this
theorem sig_take {xs : List Int} : sig (xs.take (sig xs)) = sig xs := by
  have hl := sig_le xs
  refine sig_eq (by simp; omega) (fun j h1 h2 => by simp at h2; omega) ?_
  by_cases h : sig xs = 0
  · exact .inl h
  · refine .inr ?_
    have := sig_last (xs := xs) (by omega)
    rw [List.getD_eq_getElem?_getD, List.getElem?_take, if_pos (by omega), ← List.getD_eq_getElem?_getD]; exact this
theorem limF_fuel (f : Nat) : ∀ g n, n ≤ f → n ≤ g → limF f n = limF g n := by
  induction f with
  | zero =>
    intro g n h1 _
    have : n = 0 := by omega
    subst this
    cases g <;> simp [limF]
  | succ f ih =>
    intro g n h1 h2
    cases g with
    | zero =>
      have : n = 0 := by omega
      subst this; simp [limF]
    | succ g =>
      simp only [limF]
      split
      · rfl
      · rw [ih g (n / 4294967296) (by omega) (by omega)]
theorem lim_zero : lim 0 = [] := rfl
theorem lim_pos {n : Nat} (h : n ≠ 0) : lim n = ((n % 4294967296 : Nat) : Int) :: lim (n / 4294967296) := by
  obtain ⟨m, rfl⟩ : ∃ m, n = m + 1 := ⟨n - 1, by omega⟩
  unfold lim
  rw [limF, if_neg h, limF_fuel m ((m + 1) / 4294967296) ((m + 1) / 4294967296) (by omega) (Nat.le_refl _)]
theorem lim_u32 (n : Nat) : U32s (lim n) := by
  induction n using Nat.strongRecOn with
  | _ n ih =>
    by_cases h : n = 0
    · subst h; rw [lim_zero]; exact U32s.nil
    · rw [lim_pos h]; exact U32s.cons ⟨by omega, by omega⟩ (ih _ (by omega))
theorem val_lim (n : Nat) : val (lim n) = n := by
  induction n using Nat.strongRecOn with
  | _ n ih =>
    by_cases h : n = 0
    · subst h; rw [lim_zero]; rfl
    · rw [lim_pos h]; simp only [val]; rw [ih _ (by omega)]; omega
theorem sig_lim (n : Nat) : sig (lim n) = (lim n).length := by
  induction n using Nat.strongRecOn with
  | _ n ih =>
    by_cases h : n = 0
    · subst h; rw [lim_zero]; rfl
    · rw [lim_pos h]
      have h1 := ih (n / 4294967296) (by omega)
      simp only [sig, List.length_cons, h1]
      split
      · rename_i h0
        have h2 : lim (n / 4294967296) = [] := List.eq_nil_of_length_eq_zero h0
        have h3 := val_lim (n / 4294967296); rw [h2] at h3; simp [val] at h3
        split <;> simp [h2] <;> omega
      · rfl
/-- A list without a limb 0 at its end is told by its value. -/
theorem lim_val {xs : List Int} (hu : U32s xs) (h : sig xs = xs.length) : lim (val xs).toNat = xs := by
  induction xs with
  | nil => simp [val, lim_zero]
  | cons x xs ih =>
    have hx := hu.head; unfold U32 at hx
    have hv := val_nonneg hu.tail
    have h2 : sig xs = xs.length := by
      simp only [sig, List.length_cons] at h
      split at h
      · rename_i h0; split at h <;> omega
      · omega
    have hne : (val (x :: xs)).toNat ≠ 0 := by
      intro h0
      have : val (x :: xs) = 0 := by have := val_nonneg hu; omega
      have := sig0_of_val hu this
      simp at h; omega
    rw [lim_pos hne]
    have e1 : (val (x :: xs)).toNat % 4294967296 = x.toNat := by simp only [val]; omega
    have e2 : (val (x :: xs)).toNat / 4294967296 = (val xs).toNat := by simp only [val]; omega
    rw [e1, e2, ih hu.tail h2]; congr 1; omega
theorem take_sig_lim {xs : List Int} (hu : U32s xs) : xs.take (sig xs) = lim (val xs).toNat := by
  have := lim_val (hu.take (sig xs)) (by rw [sig_take]; simp; have := sig_le xs; omega)
  rw [val_take_sig] at this; exact this.symm
theorem lim_len_le {n : Nat} {k : Nat} (h : (n : Int) < 4294967296 ^ k) : (lim n).length ≤ k := by
  induction k generalizing n with
  | zero => have : n = 0 := by simp at h; omega
            subst this; simp [lim_zero]
  | succ k ih =>
    by_cases h0 : n = 0
    · subst h0; simp [lim_zero]
    · rw [lim_pos h0, List.length_cons]
      have : ((n / 4294967296 : Nat) : Int) < 4294967296 ^ k := by rw [pow_succ32] at h; omega
      have := ih this; omega

/-! ### memory -/
/-- The cells of block b from 'off' on read xs. -/
def Rd (k : IntKind) (w : World) (b off : Nat) (xs : List Int) : Prop := ∀ i, i < xs.length → w.cell? ⟨b, off + i, none⟩ = some (.int k (xs.getD i 0))
/-- The slice value v reads xs. -/
def Sl (k : IntKind) (w : World) (v : Value) (xs : List Int) : Prop :=
  ∃ a c, v = .slice a xs.length c ∧ xs.length ≤ c ∧ (xs = [] ∨ ∃ b off, a = some ⟨b, off, none⟩ ∧ b < w.heap.size ∧ Rd k w b off xs)
/-- Block b is a whole array of its own, not frozen, that holds xs. -/
def Arr (k : IntKind) (e : TypeId) (w : World) (b : Nat) (xs : List Int) : Prop := w.heap[b]? = some (.cells (xs.map (Value.int k)).toArray e (0, 0))
/-- Only block b has turned; new blocks may have come. -/
abbrev Upd (w w' : World) (b : Nat) : Prop := w.grownBy w' (some b)

theorem Arr.lt {k : IntKind} {e : TypeId} {w : World} {b : Nat} {xs : List Int} (h : Arr k e w b xs) : b < w.heap.size := (Array.getElem?_eq_some_iff.1 h).1
theorem Arr.cell {k : IntKind} {e : TypeId} {w : World} {b : Nat} {xs : List Int} (h : Arr k e w b xs) (i : Nat) (hi : i < xs.length) : w.cell? ⟨b, i, none⟩ = some (.int k (xs.getD i 0)) := by
  rw [cell_of_row w b i _ e (0, 0) h]; simp [hi]
theorem Arr.frozen {k : IntKind} {e : TypeId} {w : World} {b : Nat} {xs : List Int} (h : Arr k e w b xs) (i : Nat) : w.frozen? ⟨b, i, none⟩ = false := frozen_of_row w b i _ e h
theorem Arr.set {k : IntKind} {e : TypeId} {w : World} {b : Nat} {xs : List Int} (h : Arr k e w b xs) (i : Nat) (x : Int) : Arr k e (w.setCell ⟨b, i, none⟩ (.int k x)) b (xs.set i x) := by
  unfold Arr; rw [heap_setCell_same w b i _ e _ h]; congr 2; simp [List.map_set]
theorem Upd.set (w : World) (b i : Nat) (v : Value) : Upd w (w.setCell ⟨b, i, none⟩ v) b :=
  ⟨rfl, rfl, rfl, by simp, fun k _ hk => heap_setCell_other w ⟨b, i, none⟩ k v (fun e => hk (by simp [e]))⟩
theorem Upd.refl (w : World) (b : Nat) : Upd w w b := ⟨rfl, rfl, rfl, Nat.le_refl _, fun _ _ _ => rfl⟩
theorem Upd.trans {w w' w'' : World} {b : Nat} (h : Upd w w' b) (h' : Upd w' w'' b) : Upd w w'' b :=
  ⟨h'.os.trans h.os, h'.tape.trans h.tape, h'.output.trans h.output, Nat.le_trans h.size h'.size, fun k hk hn => (h'.block k (Nat.lt_of_lt_of_le hk h.size) hn).trans (h.block k hk hn)⟩
theorem Upd.below {B : Nat} {w0 w w' : World} {b : Nat} (h : Upd w w' b) (hb : Below B w0 w) (hB : B ≤ w.heap.size) (hBb : B ≤ b) : Below B w0 w' :=
  hb.grown h hB (fun k hk => by cases hk; exact hBb)
theorem Upd.arr {k : IntKind} {e : TypeId} {w w' : World} {b b' : Nat} {xs : List Int} (h : Upd w w' b) (ha : Arr k e w b' xs) (hne : b' ≠ b) : Arr k e w' b' xs := by
  unfold Arr; rw [h.block b' ha.lt (by simp [hne])]; exact ha
theorem Upd.rd {k : IntKind} {w w' : World} {b b' off : Nat} {xs : List Int} (h : Upd w w' b) (hlt : b' < w.heap.size) (ha : Rd k w b' off xs) (hne : b' ≠ b) : Rd k w' b' off xs :=
  fun i hi => (World.cell?_of_block (a := ⟨b', off + i, none⟩) (h.block b' hlt (by simp [hne]))).trans (ha i hi)
theorem below_arr {B : Nat} {k : IntKind} {e : TypeId} {w w' : World} {b : Nat} {xs : List Int} (h : Below B w w') (hb : b < B) (ha : Arr k e w b xs) : Arr k e w' b xs := by
  unfold Arr; rw [h.block b hb]; exact ha
theorem below_rd {B : Nat} {k : IntKind} {w w' : World} {b off : Nat} {xs : List Int} (h : Below B w w') (hb : b < B) (ha : Rd k w b off xs) : Rd k w' b off xs :=
  fun i hi => (h.cell (p := ⟨b, off + i, none⟩) hb).trans (ha i hi)
theorem below_sl {k : IntKind} {w w' : World} {v : Value} {xs : List Int} (h : Below w.heap.size w w') (ha : Sl k w v xs) : Sl k w' v xs := by
  obtain ⟨a, c, rfl, hc, h1⟩ := ha
  refine ⟨a, c, rfl, hc, ?_⟩
  rcases h1 with h1 | ⟨b, off, rfl, hb, hr⟩
  · exact .inl h1
  · exact .inr ⟨b, off, rfl, Nat.lt_of_lt_of_le hb h.size, below_rd h hb hr⟩
theorem Arr.rd {k : IntKind} {e : TypeId} {w : World} {b : Nat} {xs : List Int} (h : Arr k e w b xs) (off n : Nat) (hn : off + n ≤ xs.length) : Rd k w b off ((xs.drop off).take n) := by
  intro i hi
  simp at hi
  rw [h.cell (off + i) (by omega)]
  simp [List.getElem?_drop, show i < n by omega]
theorem Rd.take {k : IntKind} {w : World} {b off : Nat} {xs : List Int} (h : Rd k w b off xs) (n : Nat) : Rd k w b off (xs.take n) := by
  intro i hi
  simp at hi
  rw [h i (by omega)]; simp [show i < n by omega]
end Go.Proofs.YtkjdihikcgpababDoor
