/-
  Plain lists of limbs, and the words for memory that the walks use. No Go text in sight.
-/
import Derived.Test.YteagdgbcfbkfbaaRows
import Derived.WalkKit
import Derived.WalkSpells
import Derived.WalkLawsBesides
import Derived.Laws.CopyOwn
import Derived.Laws.OwnMore
import Derived.Deep.QuietTactic
import Derived.BigQuiet
namespace Go.Proofs.Yteagdgbcfbkfbaa
open Go.RowKit

/-! ### numbers as lists of limbs -/
def U32 (x : Int) : Prop := 0 ≤ x ∧ x < 4294967296
def U32s (xs : List Int) : Prop := ∀ x ∈ xs, U32 x
def val : List Int → Int
  | [] => 0
  | x :: xs => x + 4294967296 * val xs
def sig : List Int → Nat
  | [] => 0
  | x :: xs => if sig xs = 0 then (if x = 0 then 0 else 1) else sig xs + 1
def limF : Nat → Nat → List Int
  | 0, _ => []
  | f + 1, n => if n = 0 then [] else ((n % 4294967296 : Nat) : Int) :: limF f (n / 4294967296)
/-- The limbs of a number, the lowest first. -/
def lim (n : Nat) : List Int := limF n n

theorem U32s.at {xs : List Int} (h : U32s xs) (i : Nat) : U32 (xs.getD i 0) := by
  by_cases hi : i < xs.length
  · simp [hi]; exact h _ (List.getElem_mem hi)
  · simp [List.getD, List.getElem?_eq_none (Nat.le_of_not_lt hi), U32]
theorem U32s.nil : U32s [] := by intro x hx; simp at hx
theorem U32s.cons {x : Int} {xs : List Int} (h : U32 x) (hs : U32s xs) : U32s (x :: xs) := by
  intro y hy; rcases List.mem_cons.1 hy with rfl | hy
  · exact h
  · exact hs y hy
theorem U32s.head {x : Int} {xs : List Int} (h : U32s (x :: xs)) : U32 x := h x (by simp)
theorem U32s.tail {x : Int} {xs : List Int} (h : U32s (x :: xs)) : U32s xs := fun y hy => h y (by simp [hy])
theorem U32s.take {xs : List Int} (h : U32s xs) (n : Nat) : U32s (xs.take n) := fun y hy => h y (List.mem_of_mem_take hy)
theorem U32s.drop {xs : List Int} (h : U32s xs) (n : Nat) : U32s (xs.drop n) := fun y hy => h y (List.mem_of_mem_drop hy)
theorem U32s.append {xs ys : List Int} (h : U32s xs) (k : U32s ys) : U32s (xs ++ ys) := by
  intro y hy; rcases List.mem_append.1 hy with hy | hy
  · exact h y hy
  · exact k y hy
theorem U32s.set {xs : List Int} (h : U32s xs) (i : Nat) {x : Int} (hx : U32 x) : U32s (xs.set i x) := by
  intro y hy; rcases List.mem_or_eq_of_mem_set hy with hy | rfl
  · exact h y hy
  · exact hx
theorem U32s.zeros (n : Nat) : U32s (List.replicate n 0) := by
  intro y hy; rw [(List.mem_replicate.1 hy).2]; exact ⟨by decide, by decide⟩

theorem val_nonneg {xs : List Int} (h : U32s xs) : 0 ≤ val xs := by
  induction xs with
  | nil => simp [val]
  | cons x xs ih => have := ih h.tail; have := h.head.1; simp only [val]; omega
theorem pow_succ32 (n : Nat) : (4294967296 : Int) ^ (n + 1) = 4294967296 * 4294967296 ^ n := by rw [Int.pow_succ, Int.mul_comm]
theorem pow_pos32 (n : Nat) : (0 : Int) < 4294967296 ^ n := Int.pow_pos (by decide)
theorem val_lt {xs : List Int} (h : U32s xs) : val xs < 4294967296 ^ xs.length := by
  induction xs with
  | nil => simp [val]
  | cons x xs ih => have := ih h.tail; have h1 := h.head; unfold U32 at h1; simp only [val, List.length_cons, pow_succ32]; omega
theorem val_append (xs ys : List Int) : val (xs ++ ys) = val xs + 4294967296 ^ xs.length * val ys := by
  induction xs with
  | nil => simp [val]
  | cons x xs ih => simp only [List.cons_append, val, ih, List.length_cons, pow_succ32, Int.mul_add, Int.mul_assoc]; omega
theorem val_zeros (n : Nat) : val (List.replicate n 0) = 0 := by
  induction n with
  | zero => rfl
  | succ n ih => simp [List.replicate_succ, val, ih]
theorem sig_le (xs : List Int) : sig xs ≤ xs.length := by
  induction xs with
  | nil => simp [sig]
  | cons x xs ih => simp only [sig, List.length_cons]; split <;> (try split) <;> omega
theorem val_of_sig0 {xs : List Int} (h : sig xs = 0) : val xs = 0 := by
  induction xs with
  | nil => rfl
  | cons x xs ih =>
    simp only [sig] at h
    split at h
    · split at h
      · rename_i h1 h2; simp [val, h2, ih h1]
      · omega
    · omega
theorem sig0_of_val {xs : List Int} (hu : U32s xs) (h : val xs = 0) : sig xs = 0 := by
  induction xs with
  | nil => rfl
  | cons x xs ih =>
    have h1 := val_nonneg hu.tail; have h2 := hu.head; unfold U32 at h2
    simp only [val] at h
    have hv : val xs = 0 := by omega
    have hx : x = 0 := by omega
    simp [sig, ih hu.tail hv, hx]
theorem val_take_sig (xs : List Int) : val (xs.take (sig xs)) = val xs := by
  induction xs with
  | nil => rfl
  | cons x xs ih =>
    simp only [sig]
    split
    · rename_i h
      split
      · rename_i hx; simp [val, hx, val_of_sig0 h]
      · simp [val, val_of_sig0 h]
    · simp [val, ih]
/-- What 'length' finds is 'sig'. -/
theorem sig_eq {xs : List Int} {k : Nat} (hk : k ≤ xs.length) (h0 : ∀ j, k ≤ j → j < xs.length → xs.getD j 0 = 0) (h1 : k = 0 ∨ xs.getD (k - 1) 0 ≠ 0) : sig xs = k := by
  induction xs generalizing k with
  | nil => simp at hk; simp [sig, hk]
  | cons x xs ih =>
    cases k with
    | zero =>
      have hs : sig xs = 0 := ih (k := 0) (Nat.zero_le _) (fun j _ hj => by simpa using h0 (j + 1) (Nat.zero_le _) (by simpa using hj)) (.inl rfl)
      have hx : x = 0 := by simpa using h0 0 (Nat.le_refl _) (by simp)
      simp [sig, hs, hx]
    | succ k =>
      have hkl : k ≤ xs.length := by simpa using hk
      have hz : ∀ j, k ≤ j → j < xs.length → xs.getD j 0 = 0 := fun j hj hl => by simpa using h0 (j + 1) (by omega) (by simpa using hl)
      cases k with
      | zero =>
        have hs : sig xs = 0 := ih (k := 0) (Nat.zero_le _) hz (.inl rfl)
        have hx : x ≠ 0 := by simpa using h1
        simp [sig, hs, hx]
      | succ k =>
        have hs : sig xs = k + 1 := ih hkl hz (.inr (by simpa using h1))
        simp [sig, hs]
theorem sig_last {xs : List Int} (h : 0 < sig xs) : xs.getD (sig xs - 1) 0 ≠ 0 := by
  induction xs with
  | nil => simp [sig] at h
  | cons x xs ih =>
    simp only [sig] at h ⊢
    split
    · rename_i h1
      split
      · rename_i h2; simp [h1, h2] at h
      · rename_i h2; simpa using h2
    · rename_i h1
      have := ih (by omega)
      obtain ⟨m, hm⟩ : ∃ m, sig xs = m + 1 := ⟨sig xs - 1, by omega⟩
      rw [hm] at this ⊢
      simpa using this
theorem sig_take {xs : List Int} : sig (xs.take (sig xs)) = sig xs := by
  have hl := sig_le xs
  refine sig_eq (by simp; omega) (fun j h1 h2 => by simp at h2; omega) ?_
  by_cases h : sig xs = 0
  · exact .inl h
  · refine .inr ?_
    have := sig_last (xs := xs) (by omega)
    rw [List.getD_eq_getElem?_getD, List.getElem?_take, if_pos (by omega), ← List.getD_eq_getElem?_getD]; exact this
theorem limF_fuel (f : Nat) : ∀ g n, n ≤ f → n ≤ g → limF f n = limF g n := by
  induction f with
  | zero =>
    intro g n h1 _
    have : n = 0 := by omega
    subst this
    cases g <;> simp [limF]
  | succ f ih =>
    intro g n h1 h2
    cases g with
    | zero =>
      have : n = 0 := by omega
      subst this; simp [limF]
    | succ g =>
      simp only [limF]
      split
      · rfl
      · rw [ih g (n / 4294967296) (by omega) (by omega)]
theorem lim_zero : lim 0 = [] := rfl
theorem lim_pos {n : Nat} (h : n ≠ 0) : lim n = ((n % 4294967296 : Nat) : Int) :: lim (n / 4294967296) := by
  obtain ⟨m, rfl⟩ : ∃ m, n = m + 1 := ⟨n - 1, by omega⟩
  unfold lim
  rw [limF, if_neg h, limF_fuel m ((m + 1) / 4294967296) ((m + 1) / 4294967296) (by omega) (Nat.le_refl _)]
theorem lim_u32 (n : Nat) : U32s (lim n) := by
  induction n using Nat.strongRecOn with
  | _ n ih =>
    by_cases h : n = 0
    · subst h; rw [lim_zero]; exact U32s.nil
    · rw [lim_pos h]; exact U32s.cons ⟨by omega, by omega⟩ (ih _ (by omega))
theorem val_lim (n : Nat) : val (lim n) = n := by
  induction n using Nat.strongRecOn with
  | _ n ih =>
    by_cases h : n = 0
    · subst h; rw [lim_zero]; rfl
    · rw [lim_pos h]; simp only [val]; rw [ih _ (by omega)]; omega
theorem sig_lim (n : Nat) : sig (lim n) = (lim n).length := by
  induction n using Nat.strongRecOn with
  | _ n ih =>
    by_cases h : n = 0
    · subst h; rw [lim_zero]; rfl
    · rw [lim_pos h]
      have h1 := ih (n / 4294967296) (by omega)
      simp only [sig, List.length_cons, h1]
      split
      · rename_i h0
        have h2 : lim (n / 4294967296) = [] := List.eq_nil_of_length_eq_zero h0
        have h3 := val_lim (n / 4294967296); rw [h2] at h3; simp [val] at h3
        split <;> simp [h2] <;> omega
      · rfl
/-- A list without a limb 0 at its end is told by its value. -/
theorem lim_val {xs : List Int} (hu : U32s xs) (h : sig xs = xs.length) : lim (val xs).toNat = xs := by
  induction xs with
  | nil => simp [val, lim_zero]
  | cons x xs ih =>
    have hx := hu.head; unfold U32 at hx
    have hv := val_nonneg hu.tail
    have h2 : sig xs = xs.length := by
      simp only [sig, List.length_cons] at h
      split at h
      · rename_i h0; split at h <;> omega
      · omega
    have hne : (val (x :: xs)).toNat ≠ 0 := by
      intro h0
      have : val (x :: xs) = 0 := by have := val_nonneg hu; omega
      have := sig0_of_val hu this
      simp at h; omega
    rw [lim_pos hne]
    have e1 : (val (x :: xs)).toNat % 4294967296 = x.toNat := by simp only [val]; omega
    have e2 : (val (x :: xs)).toNat / 4294967296 = (val xs).toNat := by simp only [val]; omega
    rw [e1, e2, ih hu.tail h2]; congr 1; omega
theorem take_sig_lim {xs : List Int} (hu : U32s xs) : xs.take (sig xs) = lim (val xs).toNat := by
  have := lim_val (hu.take (sig xs)) (by rw [sig_take]; simp; have := sig_le xs; omega)
  rw [val_take_sig] at this; exact this.symm
theorem lim_len_le {n : Nat} {k : Nat} (h : (n : Int) < 4294967296 ^ k) : (lim n).length ≤ k := by
  induction k generalizing n with
  | zero => have : n = 0 := by simp at h; omega
            subst this; simp [lim_zero]
  | succ k ih =>
    by_cases h0 : n = 0
    · subst h0; simp [lim_zero]
    · rw [lim_pos h0, List.length_cons]
      have : ((n / 4294967296 : Nat) : Int) < 4294967296 ^ k := by rw [pow_succ32] at h; omega
      have := ih this; omega

/-! ### memory -/
/-- The cells of block b from 'off' on read xs. -/
def Rd (k : IntKind) (w : World) (b off : Nat) (xs : List Int) : Prop := ∀ i, i < xs.length → w.cell? ⟨b, off + i, none⟩ = some (.int k (xs.getD i 0))
/-- The slice value v reads xs. -/
def Sl (k : IntKind) (w : World) (v : Value) (xs : List Int) : Prop :=
  ∃ a c, v = .slice a xs.length c ∧ xs.length ≤ c ∧ (xs = [] ∨ ∃ b off, a = some ⟨b, off, none⟩ ∧ b < w.heap.size ∧ Rd k w b off xs)
/-- Block b is a whole array of its own, not frozen, that holds xs. -/
def Arr (k : IntKind) (e : TypeId) (w : World) (b : Nat) (xs : List Int) : Prop := w.heap[b]? = some (.cells (xs.map (Value.int k)).toArray e (0, 0))
/-- Only block b has turned; new blocks may have come. -/
abbrev Upd (w w' : World) (b : Nat) : Prop := w.grownBy w' (some b)

theorem Arr.lt {k : IntKind} {e : TypeId} {w : World} {b : Nat} {xs : List Int} (h : Arr k e w b xs) : b < w.heap.size := (Array.getElem?_eq_some_iff.1 h).1
theorem Arr.cell {k : IntKind} {e : TypeId} {w : World} {b : Nat} {xs : List Int} (h : Arr k e w b xs) (i : Nat) (hi : i < xs.length) : w.cell? ⟨b, i, none⟩ = some (.int k (xs.getD i 0)) := by
  rw [cell_of_row w b i _ e (0, 0) h]; simp [hi]
theorem Arr.frozen {k : IntKind} {e : TypeId} {w : World} {b : Nat} {xs : List Int} (h : Arr k e w b xs) (i : Nat) : w.frozen? ⟨b, i, none⟩ = false := frozen_of_row w b i _ e h
theorem Arr.set {k : IntKind} {e : TypeId} {w : World} {b : Nat} {xs : List Int} (h : Arr k e w b xs) (i : Nat) (x : Int) : Arr k e (w.setCell ⟨b, i, none⟩ (.int k x)) b (xs.set i x) := by
  unfold Arr; rw [heap_setCell_same w b i _ e _ h]; congr 2; simp [List.map_set]
theorem Upd.set (w : World) (b i : Nat) (v : Value) : Upd w (w.setCell ⟨b, i, none⟩ v) b :=
  ⟨rfl, rfl, rfl, by simp, fun k _ hk => heap_setCell_other w ⟨b, i, none⟩ k v (fun e => hk (by simp [e]))⟩
theorem Upd.refl (w : World) (b : Nat) : Upd w w b := ⟨rfl, rfl, rfl, Nat.le_refl _, fun _ _ _ => rfl⟩
theorem Upd.trans {w w' w'' : World} {b : Nat} (h : Upd w w' b) (h' : Upd w' w'' b) : Upd w w'' b :=
  ⟨h'.os.trans h.os, h'.tape.trans h.tape, h'.output.trans h.output, Nat.le_trans h.size h'.size, fun k hk hn => (h'.block k (Nat.lt_of_lt_of_le hk h.size) hn).trans (h.block k hk hn)⟩
theorem Upd.below {B : Nat} {w0 w w' : World} {b : Nat} (h : Upd w w' b) (hb : Below B w0 w) (hB : B ≤ w.heap.size) (hBb : B ≤ b) : Below B w0 w' :=
  hb.grown h hB (fun k hk => by cases hk; exact hBb)
theorem Upd.arr {k : IntKind} {e : TypeId} {w w' : World} {b b' : Nat} {xs : List Int} (h : Upd w w' b) (ha : Arr k e w b' xs) (hne : b' ≠ b) : Arr k e w' b' xs := by
  unfold Arr; rw [h.block b' ha.lt (by simp [hne])]; exact ha
theorem Upd.rd {k : IntKind} {w w' : World} {b b' off : Nat} {xs : List Int} (h : Upd w w' b) (hlt : b' < w.heap.size) (ha : Rd k w b' off xs) (hne : b' ≠ b) : Rd k w' b' off xs :=
  fun i hi => (World.cell?_of_block (a := ⟨b', off + i, none⟩) (h.block b' hlt (by simp [hne]))).trans (ha i hi)
theorem below_arr {B : Nat} {k : IntKind} {e : TypeId} {w w' : World} {b : Nat} {xs : List Int} (h : Below B w w') (hb : b < B) (ha : Arr k e w b xs) : Arr k e w' b xs := by
  unfold Arr; rw [h.block b hb]; exact ha
theorem below_rd {B : Nat} {k : IntKind} {w w' : World} {b off : Nat} {xs : List Int} (h : Below B w w') (hb : b < B) (ha : Rd k w b off xs) : Rd k w' b off xs :=
  fun i hi => (h.cell (p := ⟨b, off + i, none⟩) hb).trans (ha i hi)
theorem below_sl {k : IntKind} {w w' : World} {v : Value} {xs : List Int} (h : Below w.heap.size w w') (ha : Sl k w v xs) : Sl k w' v xs := by
  obtain ⟨a, c, rfl, hc, h1⟩ := ha
  refine ⟨a, c, rfl, hc, ?_⟩
  rcases h1 with h1 | ⟨b, off, rfl, hb, hr⟩
  · exact .inl h1
  · exact .inr ⟨b, off, rfl, Nat.lt_of_lt_of_le hb h.size, below_rd h hb hr⟩
theorem Arr.rd {k : IntKind} {e : TypeId} {w : World} {b : Nat} {xs : List Int} (h : Arr k e w b xs) (off n : Nat) (hn : off + n ≤ xs.length) : Rd k w b off ((xs.drop off).take n) := by
  intro i hi
  simp at hi
  rw [h.cell (off + i) (by omega)]
  simp [List.getElem?_drop, show i < n by omega]
theorem Rd.take {k : IntKind} {w : World} {b off : Nat} {xs : List Int} (h : Rd k w b off xs) (n : Nat) : Rd k w b off (xs.take n) := by
  intro i hi
  simp at hi
  rw [h i (by omega)]; simp [show i < n by omega]
end Go.Proofs.Yteagdgbcfbkfbaa
/-
  The walks of length, cut, tooLong: what each call answers, whatever the lists.
-/
namespace Go.Proofs.Yteagdgbcfbkfbaa.Nt
open Go.RowKit

theorem ret_int {k : IntKind} {a b : Int} (h : a = b) : Ending.returned (.int k a) = .returned (.int k b) := by rw [h]

set_option maxHeartbeats 400000 in
theorem length_any (xs : List Int) (v : Value) (w : World) (h : Sl .u32 w v xs) (hl : xs.length ≤ 1152921504606846976) :
    Calls Try.prog 78 #[v] w fun e w' => e = .returned (.int .i64 (sig xs)) ∧ w' = w := by
  obtain ⟨a, c, rfl, hc, h1⟩ := h
  rcases h1 with rfl | ⟨b, off, rfl, hb, hr⟩
  · simp only [List.length_nil]
    go_enter Try.func78, Try.ntmps78
    go_wp2
    go_loop [3] (fun i => i = .int .i64 0) (fun _ => 0)
    case atStart => rfl
    case round =>
      subst hrel
      go_wp2
      go_ret
      exact ⟨by simp [sig], rfl⟩
  · go_enter Try.func78, Try.ntmps78
    go_wp2
    go_loop [3] (fun i => ∃ k : Nat, k ≤ xs.length ∧ i = .int .i64 k ∧ ∀ j, k ≤ j → j < xs.length → xs.getD j 0 = 0) (fun i => (intOf i).toNat)
    case atStart => exact ⟨xs.length, Nat.le_refl _, rfl, fun j h1 h2 => by omega⟩
    case round =>
      obtain ⟨k, hk, rfl, hz⟩ := hrel
      by_cases hk0 : k = 0
      · subst hk0
        have HS : Hid (sig xs = 0) := sig_eq (Nat.zero_le _) hz (.inl rfl)
        clear hz
        go_wp2
        go_ret
        exact ⟨ret_int (by rw [HS.out]; rfl), rfl⟩
      · obtain ⟨m, rfl⟩ : ∃ m, k = m + 1 := ⟨k - 1, by omega⟩
        obtain ⟨x, hx⟩ : ∃ x, xs.getD m 0 = x := ⟨_, rfl⟩
        have hcell := hr m (by omega)
        rw [hx] at hcell
        have HZ : Hid (∀ j, m + 1 ≤ j → j < xs.length → xs.getD j 0 = 0) := hz
        have HX : Hid (xs.getD m 0 = x) := hx
        clear hz hx hr
        by_cases hx0 : x = 0
        · go_wp2
          go_round
          case rel => exact ⟨m, by omega, by go_num, fun j h1 h2 => by
            by_cases h3 : j = m
            · subst h3; rw [HX.out]; exact hx0
            · exact HZ.out j (by omega) h2⟩
          case measure => simp [intOf]
        · go_wp2
          go_ret
          exact ⟨ret_int (by rw [sig_eq (k := m + 1) hk HZ.out (.inr (by intro h3; exact hx0 (HX.out.symm.trans h3)))]; rfl), rfl⟩

theorem _root_.Go.Proofs.Yteagdgbcfbkfbaa.Sl.len {k : IntKind} {w : World} {v : Value} {xs : List Int} (h : Sl k w v xs) : ∃ a c, v = .slice a xs.length c ∧ xs.length ≤ c := by
  obtain ⟨a, c, rfl, hc, _⟩ := h; exact ⟨a, c, rfl, hc⟩

/-- cut: the same memory, without the limbs 0 at its end. -/
theorem cut_any (xs : List Int) (a : Option Addr) (c : Nat) (w : World) (h : Sl .u32 w (.slice a xs.length c) xs) (hl : xs.length ≤ 1152921504606846976) :
    Calls Try.prog 93 #[.slice a xs.length c] w fun e w' => e = .returned (.slice a (sig xs) c) ∧ w' = w := by
  have hc : xs.length ≤ c := by obtain ⟨_, _, h1, hc, _⟩ := h; cases h1; exact hc
  have hs := sig_le xs
  go_enter Try.func93, Try.ntmps93
  go_wp2_with (go_at_call 78; refine (length_any xs _ _ h hl).mono ?_; rintro e w' ⟨rfl, rfl⟩)
  go_ret
  exact ⟨rfl, rfl⟩

theorem tooLong_any (xs ys : List Int) (v u : Value) (w : World) (h : Sl .u32 w v xs) (h' : Sl .u32 w u ys) :
    Calls Try.prog 98 #[v, u] w fun e w' => e = .returned (.bool (decide (512 < xs.length) || decide (512 < ys.length))) ∧ w' = w := by
  obtain ⟨a, c, rfl, hc⟩ := h.len
  obtain ⟨a', c', rfl, hc'⟩ := h'.len
  by_cases h1 : 512 < xs.length
  · go_enter Try.func98, Try.ntmps98
    go_wp2
    go_ret
    exact ⟨by simp [h1], rfl⟩
  · by_cases h2 : 512 < ys.length
    · go_enter Try.func98, Try.ntmps98
      go_wp2
      go_ret
      exact ⟨by simp [h2], rfl⟩
    · go_enter Try.func98, Try.ntmps98
      go_wp2
      go_ret
      exact ⟨by simp [h1, h2], rfl⟩
end Go.Proofs.Yteagdgbcfbkfbaa.Nt
/-
  The walk of addTimes: x times b is added to the lowest limbs of a, in place.
-/
namespace Go.Proofs.Yteagdgbcfbkfbaa.Nt
open Go.RowKit

theorem drewN_heap (w : World) (n : Nat) : (w.drewN n).heap = w.heap := rfl
theorem _root_.Go.Proofs.Yteagdgbcfbkfbaa.Arr.drewN {k : IntKind} {e : TypeId} {w : World} {b : Nat} {xs : List Int} (h : Arr k e w b xs) (n : Nat) : Arr k e (w.drewN n) b xs := h
theorem _root_.Go.Proofs.Yteagdgbcfbkfbaa.Upd.drewN {w w' : World} {b : Nat} (h : Upd w w' b) (n : Nat) : Upd w (w'.drewN n) b := ⟨h.os, h.tape, h.output, h.size, h.block⟩
theorem mul_u32 {x y : Int} (hx : U32 x) (hy : U32 y) : 0 ≤ x * y ∧ x * y ≤ 18446744065119617025 := by
  unfold U32 at hx hy
  refine ⟨Int.mul_nonneg hx.1 hy.1, ?_⟩
  calc x * y ≤ 4294967295 * y := Int.mul_le_mul_of_nonneg_right (by omega) hy.1
    _ ≤ 4294967295 * 4294967295 := Int.mul_le_mul_of_nonneg_left (by omega) (by decide)
    _ = _ := by decide
theorem val_snoc (xs : List Int) (x : Int) : val (xs ++ [x]) = val xs + 4294967296 ^ xs.length * x := by rw [val_append]; simp [val]
theorem take_snoc (xs : List Int) (k : Nat) (h : k < xs.length) : xs.take (k + 1) = xs.take k ++ [xs.getD k 0] := by
  rw [List.take_succ_eq_append_getElem h]; simp [h]
theorem val_take_succ (xs : List Int) (k : Nat) (h : k < xs.length) : val (xs.take (k + 1)) = val (xs.take k) + 4294967296 ^ k * xs.getD k 0 := by
  rw [take_snoc xs k h, val_snoc, List.length_take, Nat.min_eq_left (by omega)]

/-- One limb more: the row behind the store. -/
theorem mid_set (A Z : List Int) (off : Nat) (z : Int) (h : off + Z.length < A.length) :
    (A.take off ++ Z ++ A.drop (off + Z.length)).set (off + Z.length) z = A.take off ++ (Z ++ [z]) ++ A.drop (off + (Z ++ [z]).length) := by
  have h1 : (A.take off ++ Z).length = off + Z.length := by simp; omega
  rw [List.set_append_right _ _ (by omega), h1, Nat.sub_self, List.drop_eq_getElem_cons h]
  simp [Nat.add_assoc]
theorem mid_get (A Z : List Int) (off : Nat) : (A.take off ++ Z ++ A.drop (off + Z.length)).getD (off + Z.length) 0 = A.getD (off + Z.length) 0 := by
  by_cases h : off ≤ A.length
  · have h1 : (A.take off ++ Z).length = off + Z.length := by simp; omega
    rw [List.getD_eq_getElem?_getD, List.getElem?_append_right (by omega), h1, Nat.sub_self, List.getElem?_drop]; simp
  · have h2 : A.drop (off + Z.length) = [] := List.drop_eq_nil_of_le (by omega)
    rw [h2, List.getD_eq_getElem?_getD, List.getD_eq_getElem?_getD, List.getElem?_eq_none (by simp; omega), List.getElem?_eq_none (by omega)]
theorem mid_len (A Z : List Int) (off : Nat) (h : off + Z.length ≤ A.length) : (A.take off ++ Z ++ A.drop (off + Z.length)).length = A.length := by
  simp; omega

/-- The sum's step: a limb and a carry more. -/
theorem add_step (P c x y a v u : Int) (T : Int) (hT : T = c + (x * y + a)) (ih : v + P * c = u) :
    (v + P * (T % 4294967296)) + (4294967296 * P) * (T / 4294967296) = u + P * a + x * (P * y) := by
  have h1 : T % 4294967296 + 4294967296 * (T / 4294967296) = T := by omega
  have h2 : P * (T % 4294967296) + (4294967296 * P) * (T / 4294967296) = P * T := by
    rw [← h1, Int.mul_add]; congr 1
    · rw [h1]
    · rw [h1, Int.mul_comm 4294967296 P, Int.mul_assoc]
  have h3 : P * T = P * c + (P * (x * y) + P * a) := by rw [hT, Int.mul_add, Int.mul_add]
  have h4 : x * (P * y) = P * (x * y) := by rw [← Int.mul_assoc, Int.mul_comm x P, Int.mul_assoc]
  omega

set_option maxHeartbeats 1000000 in
theorem addTimes_any (A ys : List Int) (x : Int) (ba off n c : Nat) (v : Value) (w : World) (hA : Arr .u32 55 w ba A) (huA : U32s A) (hux : U32 x) (huy : U32s ys)
    (hy : Sl .u32 w v ys) (hne : ∀ b o n' c', ys ≠ [] → v = .slice (some ⟨b, o, none⟩) n' c' → b ≠ ba) (hfit : off + ys.length ≤ A.length) (hcap : ys.length ≤ c) (hl : ys.length ≤ 1152921504606846976) :
    Calls Try.prog 117 #[.slice (some ⟨ba, off, none⟩) n c, v, .int .u32 x] w fun e w' =>
      ∃ Z carry, e = .returned (.int .u32 carry) ∧ U32 carry ∧ U32s Z ∧ Z.length = ys.length ∧ Arr .u32 55 w' ba (A.take off ++ Z ++ A.drop (off + Z.length)) ∧ Upd w w' ba ∧
        val Z + 4294967296 ^ ys.length * carry = val ((A.drop off).take ys.length) + x * val ys := by
  obtain ⟨ab, cb, rfl, hcb, hy⟩ := hy
  have hfin : ys.take ys.length = ys := List.take_length
  rcases hy with rfl | ⟨b, ob, rfl, hb, hr⟩
  · simp only [List.length_nil]
    go_enter Try.func117, Try.ntmps117
    go_wp2
    go_loop [7, 15] (fun t i => i = .int .i64 0 ∧ t = .int .u64 0) (fun _ _ => 0)
    case atStart => exact ⟨rfl, rfl⟩
    case round =>
      obtain ⟨rfl, rfl⟩ := hrel
      go_wp2
      go_ret
      exact ⟨[], 0, rfl, ⟨by decide, by decide⟩, U32s.nil, rfl, by simpa using hA, Upd.refl _ _, by simp [val]⟩
  · by_cases hys : ys = []
    · subst hys
      simp only [List.length_nil]
      go_enter Try.func117, Try.ntmps117
      go_wp2
      go_loop [7, 15] (fun t i => i = .int .i64 0 ∧ t = .int .u64 0) (fun _ _ => 0)
      case atStart => exact ⟨rfl, rfl⟩
      case round =>
        obtain ⟨rfl, rfl⟩ := hrel
        go_wp2
        go_ret
        exact ⟨[], 0, rfl, ⟨by decide, by decide⟩, U32s.nil, rfl, by simpa using hA, Upd.refl _ _, by simp [val]⟩
    have hbne : b ≠ ba := hne _ _ _ _ hys rfl
    clear hne hys
    obtain ⟨ux1, ux2⟩ := hux
    go_enter Try.func117, Try.ntmps117
    go_wp2
    go_loopw [7, 15] (fun t i wr => ∃ Z carry, Z.length ≤ ys.length ∧ i = .int .i64 Z.length ∧ t = .int .u64 carry ∧ U32 carry ∧ U32s Z ∧ Arr .u32 55 wr ba (A.take off ++ Z ++ A.drop (off + Z.length)) ∧ Upd w wr ba ∧
        val Z + 4294967296 ^ Z.length * carry = val ((A.drop off).take Z.length) + x * val (ys.take Z.length)) (fun _ i _ => ys.length - (intOf i).toNat)
    case atStart => exact ⟨[], 0, Nat.zero_le _, rfl, rfl, ⟨by decide, by decide⟩, U32s.nil, by simpa using hA, Upd.refl _ _, by simp [val]⟩
    case round =>
      obtain ⟨Z, carry, hk, rfl, rfl, hc, hZ, hArr, hUpd, heq⟩ := hrel
      by_cases hlt : Z.length < ys.length
      · obtain ⟨y, hyk⟩ : ∃ y, ys.getD Z.length 0 = y := ⟨_, rfl⟩
        obtain ⟨a, hak⟩ : ∃ a, A.getD (off + Z.length) 0 = a := ⟨_, rfl⟩
        have uy : U32 y := hyk ▸ huy.at Z.length
        have ua : U32 a := hak ▸ huA.at _
        have hcy : wr.cell? ⟨b, ob + Z.length, none⟩ = some (.int .u32 y) := by rw [← hyk]; exact (hUpd.rd hb hr hbne) Z.length hlt
        have hca : wr.cell? ⟨ba, off + Z.length, none⟩ = some (.int .u32 a) := by
          rw [hArr.cell _ (by rw [mid_len _ _ _ (by omega)]; omega), mid_get, hak]
        have hfa : wr.frozen? ⟨ba, off + Z.length, none⟩ = false := hArr.frozen _
        obtain ⟨p, hp⟩ : ∃ p, x * y = p := ⟨_, rfl⟩
        have hpb := mul_u32 ⟨ux1, ux2⟩ uy
        rw [hp] at hpb
        obtain ⟨pb1, pb2⟩ := hpb
        obtain ⟨c1, c2⟩ := hc
        obtain ⟨uy1, uy2⟩ := uy
        obtain ⟨ua1, ua2⟩ := ua
        obtain ⟨kz, hkz⟩ : ∃ kz, Z.length = kz := ⟨_, rfl⟩
        have HH : Hid (ys.getD Z.length 0 = y ∧ A.getD (off + Z.length) 0 = a ∧ Arr .u32 55 wr ba (A.take off ++ Z ++ A.drop (off + Z.length)) ∧ Upd w wr ba ∧ U32s Z ∧ U32s A ∧ Rd .u32 w b ob ys ∧ Z.length = kz ∧
          val Z + 4294967296 ^ Z.length * carry = val ((A.drop off).take Z.length) + x * val (ys.take Z.length)) := ⟨hyk, hak, hArr, hUpd, hZ, huA, hr, hkz, heq⟩
        clear hyk hak hArr hUpd hZ heq hr
        rw [hkz] at hcy hca hfa hlt ⊢
        clear hkz
        go_wp2
        go_quiet (fail)
        go_wp2
        go_roundw
        case rel =>
          obtain ⟨hyk, hak, hArr, hUpd, hZ, huA, hr, hkz, heq⟩ := HH.out
          refine ⟨Z ++ [(carry + (p + a)) % 4294967296], (carry + (p + a)) / 4294967296, ?_, ?_, ?_, ?_, ?_, ?_, ?_, ?_⟩
          · simp; omega
          · simp [hkz]
          · go_num
          · exact ⟨by omega, by omega⟩
          · exact hZ.append (U32s.cons ⟨by omega, by omega⟩ U32s.nil)
          · subst hkz; rw [← mid_set _ _ _ _ (by omega)]; exact (hArr.drewN _).set _ _
          · exact (hUpd.drewN _).trans (Upd.set _ _ _ _)
          · subst hkz
            rw [val_snoc, List.length_append, List.length_singleton, pow_succ32, val_take_succ _ _ (by simp; omega), val_take_succ _ _ (by omega), hyk]
            have hgd : (A.drop off).getD Z.length 0 = a := by rw [List.getD_eq_getElem?_getD, List.getElem?_drop, ← List.getD_eq_getElem?_getD]; exact hak
            rw [hgd]
            have := add_step (4294967296 ^ Z.length) carry x y a (val Z) _ _ (by rw [hp]) heq
            rw [this, Int.mul_add]; omega
        case measure => simp [intOf]; omega
      · have hfull : ys.length = Z.length := by omega
        have HH : Hid (Arr .u32 55 wr ba (A.take off ++ Z ++ A.drop (off + Z.length)) ∧ Upd w wr ba ∧ U32s Z ∧ U32 carry ∧ ys.length = Z.length ∧
          val Z + 4294967296 ^ Z.length * carry = val ((A.drop off).take Z.length) + x * val (ys.take Z.length)) := ⟨hArr, hUpd, hZ, hc, hfull, heq⟩
        obtain ⟨c1, c2⟩ := hc
        clear hArr hUpd hZ heq hfull
        go_wp2
        go_ret
        obtain ⟨hArr, hUpd, hZ, hc, hfull, heq⟩ := HH.out
        refine ⟨Z, carry, rfl, hc, hZ, hfull.symm, hArr, hUpd, ?_⟩
        rw [hfull, heq, ← hfull, hfin]
end Go.Proofs.Yteagdgbcfbkfbaa.Nt
/-
  The walk of takeTimes: x times b is taken from the lowest limbs of a, in place.
-/
namespace Go.Proofs.Yteagdgbcfbkfbaa.Nt
open Go.RowKit

theorem and32 (x : Int) (h0 : 0 ≤ x) (h1 : x < 18446744073709551616) : bits BinOp.and .u64 x 4294967295 = x % 4294967296 := by
  obtain ⟨n, rfl⟩ := Int.eq_ofNat_of_zero_le h0
  have h := bits_and_u64_nat n 4294967295 (by omega) (by decide)
  have e : n &&& 4294967295 = n % 4294967296 := Nat.and_two_pow_sub_one_eq_mod n 32
  rw [e] at h
  exact h.trans (by omega)


theorem wrap_u64 (z : Int) : IntKind.u64.wrap z = z % 18446744073709551616 := by simp [IntKind.wrap, IntKind.bits, IntKind.signed]

theorem take_arith (T a : Int) (h0 : 0 ≤ T) (h1 : T ≤ 18446744069414584320) (a0 : 0 ≤ a) (a1 : a < 4294967296) :
    (a - T % 4294967296) % 18446744073709551616 % 4294967296 + T = a + 4294967296 * ((T / 4294967296 + (a - T % 4294967296) % 18446744073709551616 / 9223372036854775808) % 18446744073709551616) ∧
      0 ≤ (T / 4294967296 + (a - T % 4294967296) % 18446744073709551616 / 9223372036854775808) % 18446744073709551616 ∧
      (T / 4294967296 + (a - T % 4294967296) % 18446744073709551616 / 9223372036854775808) % 18446744073709551616 < 4294967296 := by
  obtain ⟨lo, hlo⟩ : ∃ lo, lo = T % 4294967296 := ⟨_, rfl⟩
  obtain ⟨hi, hhi⟩ : ∃ hi, hi = T / 4294967296 := ⟨_, rfl⟩
  have hT : T = 4294967296 * hi + lo := by omega
  rw [← hlo, ← hhi]
  by_cases h : lo ≤ a
  · have e1 : (a - lo) % 18446744073709551616 = a - lo := by omega
    have e2 : (a - lo) / 9223372036854775808 = 0 := by omega
    rw [e1, e2]; omega
  · have e1 : (a - lo) % 18446744073709551616 = a - lo + 18446744073709551616 := by omega
    have e2 : (a - lo + 18446744073709551616) / 9223372036854775808 = 1 := by omega
    rw [e1, e2]; omega

/-- The difference's step: a limb and a carry more. -/
theorem sub_step (P c x y a z cn V Y : Int) (vZ vA vY : Int) (hz : z + (c + x * y) = a + 4294967296 * cn) (ih : vZ + x * vY = vA + P * c) (hV : V = vZ + P * z) (hY : Y = vY + P * y) :
    V + x * Y = (vA + P * a) + (4294967296 * P) * cn := by
  have h1 : P * z + P * (c + x * y) = P * a + (4294967296 * P) * cn := by rw [← Int.mul_add, hz, Int.mul_add, Int.mul_comm 4294967296 P, Int.mul_assoc]
  have h2 : P * (c + x * y) = P * c + P * (x * y) := Int.mul_add _ _ _
  have h4 : x * (P * y) = P * (x * y) := by rw [← Int.mul_assoc, Int.mul_comm x P, Int.mul_assoc]
  rw [hV, hY, Int.mul_add, h4]; omega

set_option maxHeartbeats 1000000 in
theorem takeTimes_any (A ys : List Int) (x : Int) (ba off n c : Nat) (v : Value) (w : World) (hA : Arr .u32 55 w ba A) (huA : U32s A) (hux : U32 x) (huy : U32s ys)
    (hy : Sl .u32 w v ys) (hne : ∀ b o n' c', ys ≠ [] → v = .slice (some ⟨b, o, none⟩) n' c' → b ≠ ba) (hfit : off + ys.length ≤ A.length) (hcap : ys.length ≤ c) (hl : ys.length ≤ 1152921504606846976) :
    Calls Try.prog 118 #[.slice (some ⟨ba, off, none⟩) n c, v, .int .u32 x] w fun e w' =>
      ∃ Z carry, e = .returned (.int .u32 carry) ∧ U32 carry ∧ U32s Z ∧ Z.length = ys.length ∧ Arr .u32 55 w' ba (A.take off ++ Z ++ A.drop (off + Z.length)) ∧ Upd w w' ba ∧
        val Z + x * val ys = val ((A.drop off).take ys.length) + 4294967296 ^ ys.length * carry := by
  obtain ⟨ab, cb, rfl, hcb, hy⟩ := hy
  have hfin : ys.take ys.length = ys := List.take_length
  rcases hy with rfl | ⟨b, ob, rfl, hb, hr⟩
  · simp only [List.length_nil]
    go_enter Try.func118, Try.ntmps118
    go_wp2
    go_loop [7, 16] (fun t i => i = .int .i64 0 ∧ t = .int .u64 0) (fun _ _ => 0)
    case atStart => exact ⟨rfl, rfl⟩
    case round =>
      obtain ⟨rfl, rfl⟩ := hrel
      go_wp2
      go_ret
      exact ⟨[], 0, rfl, ⟨by decide, by decide⟩, U32s.nil, rfl, by simpa using hA, Upd.refl _ _, by simp [val]⟩
  · by_cases hys : ys = []
    · subst hys
      simp only [List.length_nil]
      go_enter Try.func118, Try.ntmps118
      go_wp2
      go_loop [7, 16] (fun t i => i = .int .i64 0 ∧ t = .int .u64 0) (fun _ _ => 0)
      case atStart => exact ⟨rfl, rfl⟩
      case round =>
        obtain ⟨rfl, rfl⟩ := hrel
        go_wp2
        go_ret
        exact ⟨[], 0, rfl, ⟨by decide, by decide⟩, U32s.nil, rfl, by simpa using hA, Upd.refl _ _, by simp [val]⟩
    have hbne : b ≠ ba := hne _ _ _ _ hys rfl
    clear hne hys
    obtain ⟨ux1, ux2⟩ := hux
    go_enter Try.func118, Try.ntmps118
    go_wp2
    go_loopw [7, 16] (fun t i wr => ∃ Z carry, Z.length ≤ ys.length ∧ i = .int .i64 Z.length ∧ t = .int .u64 carry ∧ U32 carry ∧ U32s Z ∧ Arr .u32 55 wr ba (A.take off ++ Z ++ A.drop (off + Z.length)) ∧ Upd w wr ba ∧
        val Z + x * val (ys.take Z.length) = val ((A.drop off).take Z.length) + 4294967296 ^ Z.length * carry) (fun _ i _ => ys.length - (intOf i).toNat)
    case atStart => exact ⟨[], 0, Nat.zero_le _, rfl, rfl, ⟨by decide, by decide⟩, U32s.nil, by simpa using hA, Upd.refl _ _, by simp [val]⟩
    case round =>
      obtain ⟨Z, carry, hk, rfl, rfl, hc, hZ, hArr, hUpd, heq⟩ := hrel
      by_cases hlt : Z.length < ys.length
      · obtain ⟨y, hyk⟩ : ∃ y, ys.getD Z.length 0 = y := ⟨_, rfl⟩
        obtain ⟨a, hak⟩ : ∃ a, A.getD (off + Z.length) 0 = a := ⟨_, rfl⟩
        have uy : U32 y := hyk ▸ huy.at Z.length
        have ua : U32 a := hak ▸ huA.at _
        have hcy : wr.cell? ⟨b, ob + Z.length, none⟩ = some (.int .u32 y) := by rw [← hyk]; exact (hUpd.rd hb hr hbne) Z.length hlt
        have hca : wr.cell? ⟨ba, off + Z.length, none⟩ = some (.int .u32 a) := by
          rw [hArr.cell _ (by rw [mid_len _ _ _ (by omega)]; omega), mid_get, hak]
        have hfa : wr.frozen? ⟨ba, off + Z.length, none⟩ = false := hArr.frozen _
        obtain ⟨p, hp⟩ : ∃ p, x * y = p := ⟨_, rfl⟩
        have hpb := mul_u32 ⟨ux1, ux2⟩ uy
        rw [hp] at hpb
        obtain ⟨pb1, pb2⟩ := hpb
        obtain ⟨c1, c2⟩ := hc
        obtain ⟨uy1, uy2⟩ := uy
        obtain ⟨ua1, ua2⟩ := ua
        obtain ⟨kz, hkz⟩ : ∃ kz, Z.length = kz := ⟨_, rfl⟩
        have HH : Hid (ys.getD Z.length 0 = y ∧ A.getD (off + Z.length) 0 = a ∧ Arr .u32 55 wr ba (A.take off ++ Z ++ A.drop (off + Z.length)) ∧ Upd w wr ba ∧ U32s Z ∧ U32s A ∧ Rd .u32 w b ob ys ∧ Z.length = kz ∧
          val Z + x * val (ys.take Z.length) = val ((A.drop off).take Z.length) + 4294967296 ^ Z.length * carry) := ⟨hyk, hak, hArr, hUpd, hZ, huA, hr, hkz, heq⟩
        clear hyk hak hArr hUpd hZ heq hr
        rw [hkz] at hcy hca hfa hlt ⊢
        clear hkz
        have hand := and32 (carry + p) (by omega) (by omega)
        go_wp2
        go_roundw
        case rel =>
          obtain ⟨hyk, hak, hArr, hUpd, hZ, huA, hr, hkz, heq⟩ := HH.out
          have hz1 : ∀ z : Int, IntKind.u64.wrap z = z % 18446744073709551616 := wrap_u64
          simp only [hz1]
          obtain ⟨k1, k2, k3⟩ := take_arith (carry + p) a (by omega) (by omega) ua1 ua2
          obtain ⟨cn, hcn⟩ : ∃ cn, cn = ((carry + p) / 4294967296 + (a - (carry + p) % 4294967296) % 18446744073709551616 / 9223372036854775808) % 18446744073709551616 := ⟨_, rfl⟩
          obtain ⟨z, hz⟩ : ∃ z, z = (a - (carry + p) % 4294967296) % 18446744073709551616 % 4294967296 := ⟨_, rfl⟩
          have k4 : U32 z := by rw [hz]; exact ⟨by omega, by omega⟩
          rw [← hcn] at k1 k2 k3
          rw [← hz] at k1
          rw [← hcn, ← hz]
          refine ⟨Z ++ [z], cn, ?_, ?_, rfl, ⟨k2, k3⟩, ?_, ?_, ?_, ?_⟩
          · simp; omega
          · simp [hkz]
          · exact hZ.append (U32s.cons k4 U32s.nil)
          · subst hkz; rw [← mid_set _ _ _ _ (by omega)]; exact hArr.set _ _
          · exact hUpd.trans (Upd.set _ _ _ _)
          · subst hkz
            have hgd : (A.drop off).getD Z.length 0 = a := by rw [List.getD_eq_getElem?_getD, List.getElem?_drop, ← List.getD_eq_getElem?_getD]; exact hak
            rw [List.length_append, List.length_singleton, pow_succ32, val_take_succ (A.drop off) _ (by simp; omega), hgd]
            exact sub_step _ carry x y a z cn _ _ _ _ _ (by rw [hp]; exact k1) heq (val_snoc _ _) (by rw [val_take_succ _ _ (by omega), hyk])
        case measure => simp [intOf]; omega
      · have hfull : ys.length = Z.length := by omega
        have HH : Hid (Arr .u32 55 wr ba (A.take off ++ Z ++ A.drop (off + Z.length)) ∧ Upd w wr ba ∧ U32s Z ∧ U32 carry ∧ ys.length = Z.length ∧
          val Z + x * val (ys.take Z.length) = val ((A.drop off).take Z.length) + 4294967296 ^ Z.length * carry) := ⟨hArr, hUpd, hZ, hc, hfull, heq⟩
        obtain ⟨c1, c2⟩ := hc
        clear hArr hUpd hZ heq hfull
        go_wp2
        go_ret
        obtain ⟨hArr, hUpd, hZ, hc, hfull, heq⟩ := HH.out
        refine ⟨Z, carry, rfl, hc, hZ, hfull.symm, hArr, hUpd, ?_⟩
        rw [hfull, ← heq, ← hfull, hfin]
end Go.Proofs.Yteagdgbcfbkfbaa.Nt
/-
  Laws for make and copy in the words of Base: what each leaves in memory.
-/
namespace Go.Proofs.Yteagdgbcfbkfbaa.Nt
open Go.RowKit

theorem Try.info32 : (Try.prog.info? 55).map (fun i => (i.zero, i.size, i.bytes)) = some (some (.int .u32 0), 1, 4) := by kernel_rfl
theorem Try.info8 : (Try.prog.info? 5).map (fun i => (i.zero, i.size, i.bytes)) = some (some (.int .u8 0), 1, 1) := by kernel_rfl
theorem Try.und32 : Try.prog.underlying 22 = some (.slice 55) := by kernel_rfl
theorem Try.und8 : Try.prog.underlying 45 = some (.slice 5) := by kernel_rfl
theorem Try.one32 : (Try.prog.info? 55).map (·.size) = some 1 := by kernel_rfl
theorem Try.one8 : (Try.prog.info? 5).map (·.size) = some 1 := by kernel_rfl

theorem toArray_of_toList {α : Type} {a : Array α} {l : List α} (h : a.toList = l) : a = l.toArray := by subst h; simp

/-- 'make([]T, n)': n noughts in a block of their own. -/
theorem wpList_mk {P : Program} (w : World) {ops : Array Oper} {rest : List Oper} {o : Oper} {a : Act} {Q : Exit → Act → World → Prop} (hg : o.guard = none) (l c : Operand) (t : TypeId) (hop : o.op = .makeSlice t l c)
    (k : IntKind) (e : TypeId) (bytes : Nat) (ht : P.underlying t = some (.slice e)) (hi : (P.info? e).map (fun i => (i.zero, i.size, i.bytes)) = some (some (.int k 0), 1, bytes))
    (L : Int) (n : Nat) (hl : a.eval l = .int .i64 L) (hc : a.eval c = .int .i64 L) (hL : L = n) (hb : bytes * n ≤ 281474976710656) (hm : n ≤ 1152921504606846976)
    (hK : ∀ w', Arr k e w' w.heap.size (List.replicate n 0) → Below w.heap.size w w' → wpList P ops Q rest (a.put o.dst (.slice (some ⟨w.heap.size, 0, none⟩) n n)) w') :
    wpList P ops Q (o :: rest) a w := by
  obtain ⟨i0, hi0, hz0, hz1, hz2⟩ := info_parts hi
  refine wpList_make_full w hg l c t hop w.heap.size e i0 (.int k 0) 1 ht hi0 hz0 hz1 .i64 .i64 L L n hl hc hL hL (by rw [hz2]; exact hb) (by unfold maxLen; omega) (Nat.le_refl _) ?_
  intro w' hown hgr
  refine hK w' ?_ ((Below.refl _ _).grown hgr (Nat.le_refl _) (fun k hk => by cases hk))
  obtain ⟨_, h⟩ := hown
  rcases h with ⟨h, _⟩ | ⟨g, cap, cur, hv, _, hg, _, _, hs, htk⟩
  · cases h
  · simp only [Value.slice.injEq, Option.some.injEq, Addr.mk.injEq, and_true, true_and] at hv
    obtain ⟨rfl, rfl⟩ := hv
    unfold Arr
    rw [hg]
    have e1 : cur.toList = List.replicate n (.int k 0) := by
      rw [List.take_of_length_le (by simp; omega)] at htk
      rw [htk, Nat.mul_one]; exact toList_madeCells_one (.int k 0) n
    rw [toArray_of_toList e1]; simp

/-- 'copy(dst, src)', dst at a place of a block of its own. -/
theorem wpList_cp {P : Program} {w : World} {ops : Array Oper} {rest : List Oper} {o : Oper} {a : Act} {Q : Exit → Act → World → Prop} (hgd : o.guard = none) (d s : Operand) (t : TypeId)
    (ho : o.op = .call { callee := .builtin .copy, args := #[d, s], argTypes := #[t, t] }) (k : IntKind) (e : TypeId) (hu : P.underlying t = some (.slice e)) (hsz : (P.info? e).map (·.size) = some 1)
    (g off dLen dCap : Nat) (D xs : List Int) (hA : Arr k e w g D) (v : Value) (hd : a.eval d = .slice (some ⟨g, off, none⟩) dLen dCap) (hs : a.eval s = v) (hx : Sl k w v xs)
    (n : Nat) (hn : n = Nat.min xs.length dLen) (hfit : off + n ≤ D.length)
    (h : ∀ w', Arr k e w' g (D.take off ++ (xs.take n ++ D.drop (off + n))) → Upd w w' g → wpList P ops Q rest (a.put o.dst (goInt n)) w') :
    wpList P ops Q (o :: rest) a w := by
  obtain ⟨sp, sCap, rfl, _, hx⟩ := hx
  have hlen : ((xs.take n).map (Value.int k)).length = n := by
    have : n ≤ xs.length := by rw [hn]; exact Nat.min_le_left _ _
    simp; omega
  by_cases h0 : n = 0
  · refine wpList_copy_nothing hgd d s t t ho e hu hsz _ sp dLen dCap xs.length sCap hd hs (by omega) ?_
    subst h0
    exact h w (by simpa using hA) (Upd.refl _ _)
  · rcases hx with rfl | ⟨b, ob, rfl, hb, hr⟩
    · simp at hn; omega
    · have hr' : n ≤ xs.length := by rw [hn]; exact Nat.min_le_left _ _
      have hc := wpList_copy_own (P := P) (ops := ops) (rest := rest) (Q := Q) hgd d s t t ho e hu hsz g off dLen dCap ⟨b, ob, none⟩ xs.length sCap hd hs _ e hA ((xs.take n).map (Value.int k)) (by rw [hlen, hn])
        (fun j u hj => by
          have hjn : j < n := by rw [← hlen]; exact (List.getElem?_eq_some_iff.1 hj).1
          have hadd : (⟨b, ob, none⟩ : Addr).add j = ⟨b, ob + j, none⟩ := by simp [Addr.add]
          rw [hadd, hr j (by omega), ← hj]
          simp [hjn, show j < xs.length by omega]) (by rw [hlen]; simpa using hfit) (by intro u hu; obtain ⟨x, _, rfl⟩ := List.mem_map.1 hu; rfl)
      rw [hlen] at hc
      refine hc (h _ ?_ ⟨rfl, rfl, rfl, by simp [World.setRow], fun k _ hk => setRow_other w g k _ (fun e => hk (by simp [e]))⟩)
      unfold Arr
      rw [setRow_heap w g _ _ e _ hA]
      simp [List.map_take, List.map_drop]

/-- A result: memory from block B on, a whole block of its own, or nil; it reads xs. -/
def Own (B : Nat) (w : World) (v : Value) (xs : List Int) : Prop :=
  (v = .slice none 0 0 ∧ xs = []) ∨ ∃ b S, v = .slice (some ⟨b, 0, none⟩) xs.length S.length ∧ B ≤ b ∧ Arr .u32 55 w b S ∧ U32s S ∧ xs.length ≤ S.length ∧ S.take xs.length = xs ∧ S.length ≤ 1125899906842624
theorem Own.sl {B : Nat} {w : World} {v : Value} {xs : List Int} (h : Own B w v xs) : Sl .u32 w v xs := by
  rcases h with ⟨rfl, rfl⟩ | ⟨b, S, rfl, _, hA, _, hl, ht, _⟩
  · exact ⟨none, 0, rfl, Nat.le_refl _, .inl rfl⟩
  · refine ⟨_, _, rfl, hl, .inr ⟨b, 0, rfl, hA.lt, ?_⟩⟩
    have := hA.rd 0 xs.length (by omega)
    rw [List.drop_zero, ht] at this; exact this
theorem Own.below {B : Nat} {w w' : World} {v : Value} {xs : List Int} (h : Own B w v xs) (hb : Below w.heap.size w w') : Own B w' v xs := by
  rcases h with h | ⟨b, S, rfl, h1, hA, h2⟩
  · exact .inl h
  · exact .inr ⟨b, S, rfl, h1, below_arr hb hA.lt hA, h2⟩
theorem Own.mono {B B' : Nat} {w : World} {v : Value} {xs : List Int} (h : Own B w v xs) (hb : B' ≤ B) : Own B' w v xs := by
  rcases h with h | ⟨b, S, rfl, h1, h2⟩
  · exact .inl h
  · exact .inr ⟨b, S, rfl, by omega, h2⟩
theorem Own.ne {B : Nat} {w : World} {v : Value} {xs : List Int} (h : Own B w v xs) : ∃ a c, v = .slice a xs.length c := by
  rcases h with ⟨rfl, rfl⟩ | ⟨b, S, rfl, _⟩
  · exact ⟨_, _, rfl⟩
  · exact ⟨_, _, rfl⟩
theorem _root_.Go.Proofs.Yteagdgbcfbkfbaa.Arr.sl {k : IntKind} {e : TypeId} {w : World} {b : Nat} {S : List Int} (h : Arr k e w b S) : Sl k w (.slice (some ⟨b, 0, none⟩) S.length S.length) S :=
  ⟨_, _, rfl, Nat.le_refl _, .inr ⟨b, 0, rfl, h.lt, by have := h.rd 0 S.length (by omega); simpa using this⟩⟩
/-- A whole block, cut: the number itself. -/
theorem Own.cut {B : Nat} {w : World} {b : Nat} {S : List Int} (hA : Arr .u32 55 w b S) (hu : U32s S) (hB : B ≤ b) (hl : S.length ≤ 1125899906842624) :
    Own B w (.slice (some ⟨b, 0, none⟩) (sig S) S.length) (lim (val S).toNat) := by
  have hs := sig_le S
  have e := take_sig_lim hu
  have e2 : (lim (val S).toNat).length = sig S := by rw [← e]; simp; omega
  refine .inr ⟨b, S, by rw [e2], hB, hA, hu, by omega, by rw [e2, e], hl⟩
end Go.Proofs.Yteagdgbcfbkfbaa.Nt
