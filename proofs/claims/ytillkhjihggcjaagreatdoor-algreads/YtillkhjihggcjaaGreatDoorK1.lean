/- joined texts -/
import Derived.LoadGo3
import Derived.WalkKit
import Derived.WalkSpells
import Derived.WalkLawsBesides
import Derived.Laws.CopyOwn
import Derived.Laws.OwnMore
import Derived.Laws.MakeOwn
import Derived.Deep.AppendSrc
import Derived.Deep.RegionHeld3
import Derived.Deep.MidRow
-- MADE BY PROGRAM (prog-in-parts.mjs) out of YtillkhjihggcjaaGreatDoorProg.lean: the load's constants.
namespace Go.Proofs
set_option maxHeartbeats 4000000 in      -- a large cut (87 functions, in a trial) ran out of the default 200,000 here: '(deterministic) timeout at whnf'
load_go_consts "../../toys/ytillkhjihggcjaagreatdoor/ytillkhjihggcjaagreatdoor.cut.gsa" as Tryz
end Go.Proofs
-- MADE BY PROGRAM (prog-in-parts.mjs) out of YtillkhjihggcjaaGreatDoorProg.lean: the load's facts, part 0 of 4.
namespace Go.Proofs
set_option maxHeartbeats 4000000 in      -- a large cut (87 functions, in a trial) ran out of the default 200,000 here: '(deterministic) timeout at whnf'
load_go_facts "../../toys/ytillkhjihggcjaagreatdoor/ytillkhjihggcjaagreatdoor.cut.gsa" as Tryz part 0 of 4
end Go.Proofs
-- MADE BY PROGRAM (prog-in-parts.mjs) out of YtillkhjihggcjaaGreatDoorProg.lean: the load's facts, part 1 of 4.
namespace Go.Proofs
set_option maxHeartbeats 4000000 in      -- a large cut (87 functions, in a trial) ran out of the default 200,000 here: '(deterministic) timeout at whnf'
load_go_facts "../../toys/ytillkhjihggcjaagreatdoor/ytillkhjihggcjaagreatdoor.cut.gsa" as Tryz part 1 of 4
end Go.Proofs
-- MADE BY PROGRAM (prog-in-parts.mjs) out of YtillkhjihggcjaaGreatDoorProg.lean: the load's facts, part 2 of 4.
namespace Go.Proofs
set_option maxHeartbeats 4000000 in      -- a large cut (87 functions, in a trial) ran out of the default 200,000 here: '(deterministic) timeout at whnf'
load_go_facts "../../toys/ytillkhjihggcjaagreatdoor/ytillkhjihggcjaagreatdoor.cut.gsa" as Tryz part 2 of 4
end Go.Proofs
-- MADE BY PROGRAM (prog-in-parts.mjs) out of YtillkhjihggcjaaGreatDoorProg.lean: the load's facts, part 3 of 4.
namespace Go.Proofs
set_option maxHeartbeats 4000000 in      -- a large cut (87 functions, in a trial) ran out of the default 200,000 here: '(deterministic) timeout at whnf'
load_go_facts "../../toys/ytillkhjihggcjaagreatdoor/ytillkhjihggcjaagreatdoor.cut.gsa" as Tryz part 3 of 4
end Go.Proofs
-- MADE BY PROGRAM (prog-in-parts.mjs): THE LOAD, out of its parts: the constants and facts that the one row below made, under the same names. The row stands here as a remark: the kit's tools read the dump's path and the alias off it.
-- load_go "../../toys/ytillkhjihggcjaagreatdoor/ytillkhjihggcjaagreatdoor.cut.gsa" as Tryz
/-
  Plain lists of limbs, and the words for memory that the walks use. No Go text in sight.
-/
namespace Go.Proofs.YtillkhjihggcjaaGreatDoor
open Go.RowKit

/-! ### numbers as lists of limbs -/
def U32 (x : Int) : Prop := 0 ≤ x ∧ x < 4294967296
def U32s (xs : List Int) : Prop := ∀ x ∈ xs, U32 x
def val : List Int → Int
  | [] => 0
  | x :: xs => x + 4294967296 * val xs
def sig : List Int → Nat
  | [] => 0
  | x :: xs => if sig xs = 0 then (if x = 0 then 0 else 1) else sig xs + 1
def limF : Nat → Nat → List Int
  | 0, _ => []
  | f + 1, n => if n = 0 then [] else ((n % 4294967296 : Nat) : Int) :: limF f (n / 4294967296)
/-- The limbs of a number, the lowest first. -/
def lim (n : Nat) : List Int := limF n n

theorem U32s.at {xs : List Int} (h : U32s xs) (i : Nat) : U32 (xs.getD i 0) := by
  by_cases hi : i < xs.length
  · simp [hi]; exact h _ (List.getElem_mem hi)
  · simp [List.getD, List.getElem?_eq_none (Nat.le_of_not_lt hi), U32]
theorem U32s.nil : U32s [] := by intro x hx; simp at hx
theorem U32s.cons {x : Int} {xs : List Int} (h : U32 x) (hs : U32s xs) : U32s (x :: xs) := by
  intro y hy; rcases List.mem_cons.1 hy with rfl | hy
  · exact h
  · exact hs y hy
theorem U32s.head {x : Int} {xs : List Int} (h : U32s (x :: xs)) : U32 x := h x (by simp)
theorem U32s.tail {x : Int} {xs : List Int} (h : U32s (x :: xs)) : U32s xs := fun y hy => h y (by simp [hy])
theorem U32s.take {xs : List Int} (h : U32s xs) (n : Nat) : U32s (xs.take n) := fun y hy => h y (List.mem_of_mem_take hy)
theorem U32s.drop {xs : List Int} (h : U32s xs) (n : Nat) : U32s (xs.drop n) := fun y hy => h y (List.mem_of_mem_drop hy)
theorem U32s.append {xs ys : List Int} (h : U32s xs) (k : U32s ys) : U32s (xs ++ ys) := by
  intro y hy; rcases List.mem_append.1 hy with hy | hy
  · exact h y hy
  · exact k y hy
theorem U32s.set {xs : List Int} (h : U32s xs) (i : Nat) {x : Int} (hx : U32 x) : U32s (xs.set i x) := by
  intro y hy; rcases List.mem_or_eq_of_mem_set hy with hy | rfl
  · exact h y hy
  · exact hx
theorem U32s.zeros (n : Nat) : U32s (List.replicate n 0) := by
  intro y hy; rw [(List.mem_replicate.1 hy).2]; exact ⟨by decide, by decide⟩

theorem val_nonneg {xs : List Int} (h : U32s xs) : 0 ≤ val xs := by
  induction xs with
  | nil => simp [val]
  | cons x xs ih => have := ih h.tail; have := h.head.1; simp only [val]; omega
theorem pow_succ32 (n : Nat) : (4294967296 : Int) ^ (n + 1) = 4294967296 * 4294967296 ^ n := by rw [Int.pow_succ, Int.mul_comm]
theorem pow_pos32 (n : Nat) : (0 : Int) < 4294967296 ^ n := Int.pow_pos (by decide)
theorem val_lt {xs : List Int} (h : U32s xs) : val xs < 4294967296 ^ xs.length := by
  induction xs with
  | nil => simp [val]
  | cons x xs ih => have := ih h.tail; have h1 := h.head; unfold U32 at h1; simp only [val, List.length_cons, pow_succ32]; omega
theorem val_append (xs ys : List Int) : val (xs ++ ys) = val xs + 4294967296 ^ xs.length * val ys := by
  induction xs with
  | nil => simp [val]
  | cons x xs ih => simp only [List.cons_append, val, ih, List.length_cons, pow_succ32, Int.mul_add, Int.mul_assoc]; omega
theorem val_zeros (n : Nat) : val (List.replicate n 0) = 0 := by
  induction n with
  | zero => rfl
  | succ n ih => simp [List.replicate_succ, val, ih]
theorem sig_le (xs : List Int) : sig xs ≤ xs.length := by
  induction xs with
  | nil => simp [sig]
  | cons x xs ih => simp only [sig, List.length_cons]; split <;> (try split) <;> omega
theorem val_of_sig0 {xs : List Int} (h : sig xs = 0) : val xs = 0 := by
  induction xs with
  | nil => rfl
  | cons x xs ih =>
    simp only [sig] at h
    split at h
    · split at h
      · rename_i h1 h2; simp [val, h2, ih h1]
      · omega
    · omega
theorem sig0_of_val {xs : List Int} (hu : U32s xs) (h : val xs = 0) : sig xs = 0 := by
  induction xs with
  | nil => rfl
  | cons x xs ih =>
    have h1 := val_nonneg hu.tail; have h2 := hu.head; unfold U32 at h2
    simp only [val] at h
    have hv : val xs = 0 := by omega
    have hx : x = 0 := by omega
    simp [sig, ih hu.tail hv, hx]
theorem val_take_sig (xs : List Int) : val (xs.take (sig xs)) = val xs := by
  induction xs with
  | nil => rfl
  | cons x xs ih =>
    simp only [sig]
    split
    · rename_i h
      split
      · rename_i hx; simp [val, hx, val_of_sig0 h]
      · simp [val, val_of_sig0 h]
    · simp [val, ih]
/-- What 'length' finds is 'sig'. -/
theorem sig_eq {xs : List Int} {k : Nat} (hk : k ≤ xs.length) (h0 : ∀ j, k ≤ j → j < xs.length → xs.getD j 0 = 0) (h1 : k = 0 ∨ xs.getD (k - 1) 0 ≠ 0) : sig xs = k := by
  induction xs generalizing k with
  | nil => simp at hk; simp [sig, hk]
  | cons x xs ih =>
    cases k with
    | zero =>
      have hs : sig xs = 0 := ih (k := 0) (Nat.zero_le _) (fun j _ hj => by simpa using h0 (j + 1) (Nat.zero_le _) (by simpa using hj)) (.inl rfl)
      have hx : x = 0 := by simpa using h0 0 (Nat.le_refl _) (by simp)
      simp [sig, hs, hx]
    | succ k =>
      have hkl : k ≤ xs.length := by simpa using hk
      have hz : ∀ j, k ≤ j → j < xs.length → xs.getD j 0 = 0 := fun j hj hl => by simpa using h0 (j + 1) (by omega) (by simpa using hl)
      cases k with
      | zero =>
        have hs : sig xs = 0 := ih (k := 0) (Nat.zero_le _) hz (.inl rfl)
        have hx : x ≠ 0 := by simpa using h1
        simp [sig, hs, hx]
      | succ k =>
        have hs : sig xs = k + 1 := ih hkl hz (.inr (by simpa using h1))
        simp [sig, hs]
theorem sig_last {xs : List Int} (h : 0 < sig xs) : xs.getD (sig xs - 1) 0 ≠ 0 := by
  induction xs with
  | nil => simp [sig] at h
  | cons x xs ih =>
    simp only [sig] at h ⊢
    split
    · rename_i h1
      split
      · rename_i h2; simp [h1, h2] at h
      · rename_i h2; simpa using h2
    · rename_i h1
      have := ih (by omega)
      obtain ⟨m, hm⟩ : ∃ m, sig xs = m + 1 := ⟨sig xs - 1, by omega⟩
      rw [hm] at this ⊢
      simpa using this
theorem sig_take {xs : List Int} : sig (xs.take (sig xs)) = sig xs := by
  have hl := sig_le xs
  refine sig_eq (by simp; omega) (fun j h1 h2 => by simp at h2; omega) ?_
  by_cases h : sig xs = 0
  · exact .inl h
  · refine .inr ?_
    have := sig_last (xs := xs) (by omega)
    rw [List.getD_eq_getElem?_getD, List.getElem?_take, if_pos (by omega), ← List.getD_eq_getElem?_getD]; exact this
theorem limF_fuel (f : Nat) : ∀ g n, n ≤ f → n ≤ g → limF f n = limF g n := by
  induction f with
  | zero =>
    intro g n h1 _
    have : n = 0 := by omega
    subst this
    cases g <;> simp [limF]
  | succ f ih =>
    intro g n h1 h2
    cases g with
    | zero =>
      have : n = 0 := by omega
      subst this; simp [limF]
    | succ g =>
      simp only [limF]
      split
      · rfl
      · rw [ih g (n / 4294967296) (by omega) (by omega)]
theorem lim_zero : lim 0 = [] := rfl
theorem lim_pos {n : Nat} (h : n ≠ 0) : lim n = ((n % 4294967296 : Nat) : Int) :: lim (n / 4294967296) := by
  obtain ⟨m, rfl⟩ : ∃ m, n = m + 1 := ⟨n - 1, by omega⟩
  unfold lim
  rw [limF, if_neg h, limF_fuel m ((m + 1) / 4294967296) ((m + 1) / 4294967296) (by omega) (Nat.le_refl _)]
theorem lim_u32 (n : Nat) : U32s (lim n) := by
  induction n using Nat.strongRecOn with
  | _ n ih =>
    by_cases h : n = 0
    · subst h; rw [lim_zero]; exact U32s.nil
    · rw [lim_pos h]; exact U32s.cons ⟨by omega, by omega⟩ (ih _ (by omega))
theorem val_lim (n : Nat) : val (lim n) = n := by
  induction n using Nat.strongRecOn with
  | _ n ih =>
    by_cases h : n = 0
    · subst h; rw [lim_zero]; rfl
    · rw [lim_pos h]; simp only [val]; rw [ih _ (by omega)]; omega
theorem sig_lim (n : Nat) : sig (lim n) = (lim n).length := by
  induction n using Nat.strongRecOn with
  | _ n ih =>
    by_cases h : n = 0
    · subst h; rw [lim_zero]; rfl
    · rw [lim_pos h]
      have h1 := ih (n / 4294967296) (by omega)
      simp only [sig, List.length_cons, h1]
      split
      · rename_i h0
        have h2 : lim (n / 4294967296) = [] := List.eq_nil_of_length_eq_zero h0
        have h3 := val_lim (n / 4294967296); rw [h2] at h3; simp [val] at h3
        split <;> simp [h2] <;> omega
      · rfl
/-- A list without a limb 0 at its end is told by its value. -/
theorem lim_val {xs : List Int} (hu : U32s xs) (h : sig xs = xs.length) : lim (val xs).toNat = xs := by
  induction xs with
  | nil => simp [val, lim_zero]
  | cons x xs ih =>
    have hx := hu.head; unfold U32 at hx
    have hv := val_nonneg hu.tail
    have h2 : sig xs = xs.length := by
      simp only [sig, List.length_cons] at h
      split at h
      · rename_i h0; split at h <;> omega
      · omega
    have hne : (val (x :: xs)).toNat ≠ 0 := by
      intro h0
      have : val (x :: xs) = 0 := by have := val_nonneg hu; omega
      have := sig0_of_val hu this
      simp at h; omega
    rw [lim_pos hne]
    have e1 : (val (x :: xs)).toNat % 4294967296 = x.toNat := by simp only [val]; omega
    have e2 : (val (x :: xs)).toNat / 4294967296 = (val xs).toNat := by simp only [val]; omega
    rw [e1, e2, ih hu.tail h2]; congr 1; omega
theorem take_sig_lim {xs : List Int} (hu : U32s xs) : xs.take (sig xs) = lim (val xs).toNat := by
  have := lim_val (hu.take (sig xs)) (by rw [sig_take]; simp; have := sig_le xs; omega)
  rw [val_take_sig] at this; exact this.symm
theorem lim_len_le {n : Nat} {k : Nat} (h : (n : Int) < 4294967296 ^ k) : (lim n).length ≤ k := by
  induction k generalizing n with
  | zero => have : n = 0 := by simp at h; omega
            subst this; simp [lim_zero]
  | succ k ih =>
    by_cases h0 : n = 0
    · subst h0; simp [lim_zero]
    · rw [lim_pos h0, List.length_cons]
      have : ((n / 4294967296 : Nat) : Int) < 4294967296 ^ k := by rw [pow_succ32] at h; omega
      have := ih this; omega

/-! ### memory -/
/-- The cells of block b from 'off' on read xs. -/
def Rd (k : IntKind) (w : World) (b off : Nat) (xs : List Int) : Prop := ∀ i, i < xs.length → w.cell? ⟨b, off + i, none⟩ = some (.int k (xs.getD i 0))
/-- The slice value v reads xs. -/
def Sl (k : IntKind) (w : World) (v : Value) (xs : List Int) : Prop :=
  ∃ a c, v = .slice a xs.length c ∧ xs.length ≤ c ∧ (xs = [] ∨ ∃ b off, a = some ⟨b, off, none⟩ ∧ b < w.heap.size ∧ Rd k w b off xs)
/-- Block b is a whole array of its own, not frozen, that holds xs. -/
def Arr (k : IntKind) (e : TypeId) (w : World) (b : Nat) (xs : List Int) : Prop := w.heap[b]? = some (.cells (xs.map (Value.int k)).toArray e (0, 0))
/-- Only block b has turned; new blocks may have come. -/
abbrev Upd (w w' : World) (b : Nat) : Prop := w.grownBy w' (some b)

theorem Arr.lt {k : IntKind} {e : TypeId} {w : World} {b : Nat} {xs : List Int} (h : Arr k e w b xs) : b < w.heap.size := (Array.getElem?_eq_some_iff.1 h).1
theorem Arr.cell {k : IntKind} {e : TypeId} {w : World} {b : Nat} {xs : List Int} (h : Arr k e w b xs) (i : Nat) (hi : i < xs.length) : w.cell? ⟨b, i, none⟩ = some (.int k (xs.getD i 0)) := by
  rw [cell_of_row w b i _ e (0, 0) h]; simp [hi]
theorem Arr.frozen {k : IntKind} {e : TypeId} {w : World} {b : Nat} {xs : List Int} (h : Arr k e w b xs) (i : Nat) : w.frozen? ⟨b, i, none⟩ = false := frozen_of_row w b i _ e h
theorem Arr.set {k : IntKind} {e : TypeId} {w : World} {b : Nat} {xs : List Int} (h : Arr k e w b xs) (i : Nat) (x : Int) : Arr k e (w.setCell ⟨b, i, none⟩ (.int k x)) b (xs.set i x) := by
  unfold Arr; rw [heap_setCell_same w b i _ e _ h]; congr 2; simp [List.map_set]
theorem Upd.set (w : World) (b i : Nat) (v : Value) : Upd w (w.setCell ⟨b, i, none⟩ v) b :=
  ⟨rfl, rfl, rfl, by simp, fun k _ hk => heap_setCell_other w ⟨b, i, none⟩ k v (fun e => hk (by simp [e]))⟩
theorem Upd.refl (w : World) (b : Nat) : Upd w w b := ⟨rfl, rfl, rfl, Nat.le_refl _, fun _ _ _ => rfl⟩
theorem Upd.trans {w w' w'' : World} {b : Nat} (h : Upd w w' b) (h' : Upd w' w'' b) : Upd w w'' b :=
  ⟨h'.os.trans h.os, h'.tape.trans h.tape, h'.output.trans h.output, Nat.le_trans h.size h'.size, fun k hk hn => (h'.block k (Nat.lt_of_lt_of_le hk h.size) hn).trans (h.block k hk hn)⟩
theorem Upd.below {B : Nat} {w0 w w' : World} {b : Nat} (h : Upd w w' b) (hb : Below B w0 w) (hB : B ≤ w.heap.size) (hBb : B ≤ b) : Below B w0 w' :=
  hb.grown h hB (fun k hk => by cases hk; exact hBb)
theorem Upd.arr {k : IntKind} {e : TypeId} {w w' : World} {b b' : Nat} {xs : List Int} (h : Upd w w' b) (ha : Arr k e w b' xs) (hne : b' ≠ b) : Arr k e w' b' xs := by
  unfold Arr; rw [h.block b' ha.lt (by simp [hne])]; exact ha
theorem Upd.rd {k : IntKind} {w w' : World} {b b' off : Nat} {xs : List Int} (h : Upd w w' b) (hlt : b' < w.heap.size) (ha : Rd k w b' off xs) (hne : b' ≠ b) : Rd k w' b' off xs :=
  fun i hi => (World.cell?_of_block (a := ⟨b', off + i, none⟩) (h.block b' hlt (by simp [hne]))).trans (ha i hi)
theorem below_arr {B : Nat} {k : IntKind} {e : TypeId} {w w' : World} {b : Nat} {xs : List Int} (h : Below B w w') (hb : b < B) (ha : Arr k e w b xs) : Arr k e w' b xs := by
  unfold Arr; rw [h.block b hb]; exact ha
theorem below_rd {B : Nat} {k : IntKind} {w w' : World} {b off : Nat} {xs : List Int} (h : Below B w w') (hb : b < B) (ha : Rd k w b off xs) : Rd k w' b off xs :=
  fun i hi => (h.cell (p := ⟨b, off + i, none⟩) hb).trans (ha i hi)
theorem below_sl {k : IntKind} {w w' : World} {v : Value} {xs : List Int} (h : Below w.heap.size w w') (ha : Sl k w v xs) : Sl k w' v xs := by
  obtain ⟨a, c, rfl, hc, h1⟩ := ha
  refine ⟨a, c, rfl, hc, ?_⟩
  rcases h1 with h1 | ⟨b, off, rfl, hb, hr⟩
  · exact .inl h1
  · exact .inr ⟨b, off, rfl, Nat.lt_of_lt_of_le hb h.size, below_rd h hb hr⟩
theorem Arr.rd {k : IntKind} {e : TypeId} {w : World} {b : Nat} {xs : List Int} (h : Arr k e w b xs) (off n : Nat) (hn : off + n ≤ xs.length) : Rd k w b off ((xs.drop off).take n) := by
  intro i hi
  simp at hi
  rw [h.cell (off + i) (by omega)]
  simp [List.getElem?_drop, show i < n by omega]
theorem Rd.take {k : IntKind} {w : World} {b off : Nat} {xs : List Int} (h : Rd k w b off xs) (n : Nat) : Rd k w b off (xs.take n) := by
  intro i hi
  simp at hi
  rw [h i (by omega)]; simp [show i < n by omega]
end Go.Proofs.YtillkhjihggcjaaGreatDoor
/-
  make in the words of Base, for seats without package nat.
-/
namespace Go.Proofs.YtillkhjihggcjaaGreatDoor
open Go.RowKit
theorem toArray_of_toList {α : Type} {a : Array α} {l : List α} (h : a.toList = l) : a = l.toArray := by subst h; simp

/-- 'make([]T, n)': n noughts in a block of their own. -/
theorem wpList_mk {P : Program} (w : World) {ops : Array Oper} {rest : List Oper} {o : Oper} {a : Act} {Q : Exit → Act → World → Prop} (hg : o.guard = none) (l c : Operand) (t : TypeId) (hop : o.op = .makeSlice t l c)
    (k : IntKind) (e : TypeId) (bytes : Nat) (ht : P.underlying t = some (.slice e)) (hi : (P.info? e).map (fun i => (i.zero, i.size, i.bytes)) = some (some (.int k 0), 1, bytes))
    (L : Int) (n : Nat) (hl : a.eval l = .int .i64 L) (hc : a.eval c = .int .i64 L) (hL : L = n) (hb : bytes * n ≤ 281474976710656) (hm : n ≤ 1152921504606846976)
    (hK : ∀ w', Arr k e w' w.heap.size (List.replicate n 0) → Below w.heap.size w w' → wpList P ops Q rest (a.put o.dst (.slice (some ⟨w.heap.size, 0, none⟩) n n)) w') :
    wpList P ops Q (o :: rest) a w := by
  obtain ⟨i0, hi0, hz0, hz1, hz2⟩ := info_parts hi
  refine wpList_make_full w hg l c t hop w.heap.size e i0 (.int k 0) 1 ht hi0 hz0 hz1 .i64 .i64 L L n hl hc hL hL (by rw [hz2]; exact hb) (by unfold maxLen; omega) (Nat.le_refl _) ?_
  intro w' hown hgr
  refine hK w' ?_ ((Below.refl _ _).grown hgr (Nat.le_refl _) (fun k hk => by cases hk))
  obtain ⟨_, h⟩ := hown
  rcases h with ⟨h, _⟩ | ⟨g, cap, cur, hv, _, hg, _, _, hs, htk⟩
  · cases h
  · simp only [Value.slice.injEq, Option.some.injEq, Addr.mk.injEq, and_true, true_and] at hv
    obtain ⟨rfl, rfl⟩ := hv
    unfold Arr
    rw [hg]
    have e1 : cur.toList = List.replicate n (.int k 0) := by
      rw [List.take_of_length_le (by simp; omega)] at htk
      rw [htk, Nat.mul_one]; exact toList_madeCells_one (.int k 0) n
    rw [toArray_of_toList e1]; simp

end Go.Proofs.YtillkhjihggcjaaGreatDoor
/-
  append onto a slice that lies in a whole block of its own (or is nil), from whatever source, in the words of Base.
-/
namespace Go.Proofs.YtillkhjihggcjaaGreatDoor
open Go.RowKit

/-- A slice of the call's own: memory from block B on, the head of a whole block of numbers, or nil; it reads xs. -/
def Row (k : IntKind) (e : TypeId) (B : Nat) (w : World) (v : Value) (xs : List Int) : Prop :=
  (v = .slice none 0 0 ∧ xs = []) ∨ ∃ b S, v = .slice (some ⟨b, 0, none⟩) xs.length S.length ∧ B ≤ b ∧ Arr k e w b S ∧ xs.length ≤ S.length ∧ S.take xs.length = xs ∧ S.length ≤ maxLen
/-- What an append has done: only new memory, or the spare room of v's block has been written. -/
def Grew (k : IntKind) (e : TypeId) (w w' : World) (v : Value) (ys : List Int) : Prop :=
  Below w.heap.size w w' ∨ ∃ b n S, v = .slice (some ⟨b, 0, none⟩) n S.length ∧ Arr k e w b S ∧ Upd w w' b ∧ n + ys.length ≤ S.length ∧ Arr k e w' b (S.take n ++ ys ++ S.drop (n + ys.length))

theorem Row.nil (k : IntKind) (e : TypeId) (B : Nat) (w : World) : Row k e B w (.slice none 0 0) [] := .inl ⟨rfl, rfl⟩
theorem Row.sl {k : IntKind} {e : TypeId} {B : Nat} {w : World} {v : Value} {xs : List Int} (h : Row k e B w v xs) : Sl k w v xs := by
  rcases h with ⟨rfl, rfl⟩ | ⟨b, S, rfl, _, hA, hl, ht, _⟩
  · exact ⟨none, 0, rfl, Nat.le_refl _, .inl rfl⟩
  · refine ⟨_, _, rfl, hl, .inr ⟨b, 0, rfl, hA.lt, ?_⟩⟩
    have := hA.rd 0 xs.length (by omega)
    rw [List.drop_zero, ht] at this; exact this
theorem Row.below {k : IntKind} {e : TypeId} {B : Nat} {w w' : World} {v : Value} {xs : List Int} (h : Row k e B w v xs) (hb : Below w.heap.size w w') : Row k e B w' v xs := by
  rcases h with h | ⟨b, S, rfl, h1, hA, h2⟩
  · exact .inl h
  · exact .inr ⟨b, S, rfl, h1, below_arr hb hA.lt hA, h2⟩
theorem Row.mono {k : IntKind} {e : TypeId} {B B' : Nat} {w : World} {v : Value} {xs : List Int} (h : Row k e B w v xs) (hb : B' ≤ B) : Row k e B' w v xs := by
  rcases h with h | ⟨b, S, rfl, h1, h2⟩
  · exact .inl h
  · exact .inr ⟨b, S, rfl, by omega, h2⟩
theorem Row.ne {k : IntKind} {e : TypeId} {B : Nat} {w : World} {v : Value} {xs : List Int} (h : Row k e B w v xs) : ∃ a c, v = .slice a xs.length c := by
  rcases h with ⟨rfl, rfl⟩ | ⟨b, S, rfl, _⟩
  · exact ⟨_, _, rfl⟩
  · exact ⟨_, _, rfl⟩
theorem Row.open {k : IntKind} {e : TypeId} {B : Nat} {w : World} {v : Value} {xs : List Int} (h : Row k e B w v xs) (n : Nat) (hn : xs.length = n) (h0 : 0 < n) :
    ∃ b S, v = .slice (some ⟨b, 0, none⟩) n S.length ∧ B ≤ b ∧ Arr k e w b S ∧ n ≤ S.length ∧ S.take n = xs ∧ S.length ≤ maxLen := by
  subst hn
  rcases h with ⟨_, rfl⟩ | h
  · simp at h0
  · exact h
theorem Row.arr {k : IntKind} {e : TypeId} {B : Nat} {w : World} {b : Nat} {S : List Int} (h : Arr k e w b S) (hB : B ≤ b) (hl : S.length ≤ maxLen) : Row k e B w (.slice (some ⟨b, 0, none⟩) S.length S.length) S :=
  .inr ⟨b, S, rfl, hB, h, Nat.le_refl _, List.take_length, hl⟩
theorem Row.alloc {k : IntKind} {e : TypeId} {B : Nat} {w : World} {v : Value} {xs : List Int} (h : Row k e B w v xs) (o : Obj) : Row k e B (w.alloc o) v xs :=
  h.below ((Below.refl _ _).alloc (Nat.le_refl _) o)
theorem Grew.below {k : IntKind} {e : TypeId} {B : Nat} {w w' : World} {v : Value} {xs ys : List Int} (h : Grew k e w w' v ys) (hr : Row k e B w v xs) (hB : B ≤ w.heap.size) : Below B w w' := by
  rcases h with h | ⟨b, n, S, rfl, _, hU, _⟩
  · exact h.mono hB
  · rcases hr with ⟨h, _⟩ | ⟨b', S', h, hb, _⟩
    · cases h
    · simp only [Value.slice.injEq, Option.some.injEq, Addr.mk.injEq, and_true] at h
      obtain ⟨rfl, _, _⟩ := h
      exact hU.below (Below.refl _ _) hB hb

theorem src_sl {P : Program} {tx e' : TypeId} (hk : P.underlying tx = some (.slice e')) {k : IntKind} {w : World} {v : Value} {ys : List Int} (h : Sl k w v ys) : Src P 1 tx v ys.length (ys.map (Value.int k)) w := by
  obtain ⟨a, c, rfl, hc, h⟩ := h
  have ho : ∀ u ∈ ys.map (Value.int k), u.oneCell' = true := by intro u hu; obtain ⟨x, _, rfl⟩ := List.mem_map.1 hu; rfl
  rcases h with rfl | ⟨b, off, rfl, hb, hr⟩
  · cases a with
    | none => exact Src.ofNil w hk c
    | some a => exact Src.ofSlice w hk a 0 c [] (by simp) (by simp) (by simp)
  · refine Src.ofSlice w hk _ _ _ _ (by simp) (fun j u hj => ?_) ho
    have hl : j < ys.length := by have := (List.getElem?_eq_some_iff.1 hj).1; simpa using this
    have hadd : (⟨b, off, none⟩ : Addr).add j = ⟨b, off + j, none⟩ := by simp [Addr.add]
    rw [hadd, hr j hl, ← hj]; simp [hl]

theorem run_ap {P : Program} (w : World) (t tx ty e : TypeId) (i : TypeInfo) (k : IntKind) (ht : P.underlying t = some (.slice e)) (hi : P.info? e = some i) (hz : i.zero = some (.int k 0)) (hsize : i.size = 1) (hby : 0 < i.bytes)
    {B : Nat} {v : Value} {xs : List Int} (hr : Row k e B w v xs) {x : Value} {ys : List Int} (hs : Src P 1 tx x ys.length (ys.map (Value.int k)) w)
    (hb : (xs.length + ys.length) * i.bytes ≤ 140737488355328) (hB : B ≤ w.heap.size) :
    ∃ v' w', (Builtin.append_ #[t, tx] ty #[v, x]).run P w = .ok v' w' ∧ Row k e B w' v' (xs ++ ys) ∧ Grew k e w w' v ys := by
  have hle : xs.length + ys.length ≤ 140737488355328 := Nat.le_trans (Nat.le_mul_of_pos_right _ hby) hb
  have hs1 : Src P i.size tx x ys.length (ys.map (Value.int k)) w := by rw [hsize]; exact hs
  have grown : ∀ (base : Option Addr) (old : Nat), old < xs.length + ys.length → (Builtin.firstCells i.size xs.length (.slice base xs.length old)).run P w.drew = .ok (xs.map (Value.int k)).toArray w.drew →
      ∃ v' w', (Builtin.append_ #[t, tx] ty #[.slice base xs.length old, x]).run P w = .ok v' w' ∧ Row k e B w' v' (xs ++ ys) ∧ Grew k e w w' (.slice base xs.length old) ys := by
    intro base old ho hold
    have h1 := run_append_grow_src (P := P) w t tx ty e i (.int k 0) ht hi hz base xs.length old _ hold x ys.length _ hs1 ho (by omega) (growslice_fits (by omega) hb)
    refine ⟨_, _, h1, ?_, .inl ((Below.refl _ _).drew.alloc (Nat.le_refl _) _)⟩
    have hge := grownCap_ge w (xs.length + ys.length) old e
    have hcm : grownCap w (xs.length + ys.length) old e ≤ maxLen := grownCap_le_maxLen w _ old e (by unfold maxLen; omega)
    obtain ⟨C, hC⟩ : ∃ C, grownCap w (xs.length + ys.length) old e = xs.length + ys.length + C := ⟨_, (Nat.add_sub_of_le hge).symm⟩
    rw [hC] at hcm ⊢
    have hzc : Builtin.zeroCells (Value.cells (.int k 0)) C = (List.replicate C (.int k 0)).toArray := by
      apply Array.ext'
      simp only [Builtin.zeroCells, Value.cells]
      simp
      rw [List.eq_replicate_iff]
      exact ⟨by simp, fun y hy => by obtain ⟨j, _, rfl⟩ := List.mem_map.1 hy; simp [Nat.mod_one]⟩
    refine .inr ⟨w.heap.size, xs ++ ys ++ List.replicate C 0, ?_, hB, ?_, by simp, List.take_left, by simp; omega⟩
    · simp; omega
    · unfold Arr
      rw [show xs.length + ys.length + C - (xs.length + ys.length) = C by omega, hzc]
      have := heap_alloc_new w.drew (.cells ((xs.map (Value.int k) ++ ys.map (Value.int k)).toArray ++ (List.replicate C (Value.int k 0)).toArray) e)
      simp only [List.map_append, List.map_replicate]
      rw [show (w.drew.heap.size) = w.heap.size from rfl] at this
      rw [this]; simp
  rcases hr with ⟨rfl, rfl⟩ | ⟨b, S, rfl, hBb, hA, hl, htk, hm⟩
  · by_cases h0 : ys.length = 0
    · have hy : ys = [] := List.eq_nil_of_length_eq_zero h0
      subst hy
      refine ⟨.slice none 0 0, w, ?_, .inl ⟨rfl, rfl⟩, .inl (Below.refl _ _)⟩
      have h1 := hs1.cells
      have h2 := hs1.len
      simp only [List.length_nil, List.map_nil] at h1 h2
      rcases hs1.kind with ⟨e', hk⟩ | hk
      · simp [Builtin.append_, run_underlying ht, run_underlying hk, sizeOf, typeInfo, hi, h2, h1]
      · simp [Builtin.append_, run_underlying ht, run_underlying hk, sizeOf, typeInfo, hi, h2, h1]
    · exact grown none 0 (by simp; omega) (run_firstCells_none w.drew i.size 0 0 0)
  · by_cases hroom : xs.length + ys.length ≤ S.length
    · have hst := run_storeCells_at P b (xs.length * i.size) e (ys.map (Value.int k)) 0 _ w hA (by simp [hsize]; omega) hs1.one
      simp only [Nat.add_zero] at hst
      have hrun : (Builtin.append_ #[t, tx] ty #[.slice (some ⟨b, 0, none⟩) xs.length S.length, x]).run P w = .ok (.slice (some ⟨b, 0, none⟩) (xs.length + ys.length) S.length) (w.setRow b (((S.map (Value.int k)).toArray.toList.take (xs.length * i.size)) ++ ys.map (Value.int k) ++ ((S.map (Value.int k)).toArray.toList.drop (xs.length * i.size + (ys.map (Value.int k)).length))).toArray) := by
        rcases hs1.kind with ⟨e', hk⟩ | hk <;> simp [Builtin.append_, run_underlying ht, run_underlying hk, sizeOf, typeInfo, hi, hs1.len, hroom, hs1.cells, Addr.add_lit, hst]
      have hA' : Arr k e (w.setRow b (((S.map (Value.int k)).toArray.toList.take (xs.length * i.size)) ++ ys.map (Value.int k) ++ ((S.map (Value.int k)).toArray.toList.drop (xs.length * i.size + (ys.map (Value.int k)).length))).toArray) b (S.take xs.length ++ ys ++ S.drop (xs.length + ys.length)) := by
        unfold Arr
        rw [setRow_heap w b _ _ e _ hA]
        simp [hsize, List.map_take, List.map_drop]
      have hlen : (S.take xs.length ++ ys ++ S.drop (xs.length + ys.length)).length = S.length := by simp; omega
      refine ⟨_, _, hrun, .inr ⟨b, _, ?_, hBb, hA', ?_, ?_, ?_⟩, .inr ⟨b, xs.length, S, rfl, hA, ⟨rfl, rfl, rfl, by simp [World.setRow], fun j _ hj => setRow_other w b j _ (fun e => hj (by simp [e]))⟩, hroom, hA'⟩⟩
      · rw [hlen]; simp
      · rw [hlen]; simp; omega
      · rw [htk]; exact List.take_left
      · rw [hlen]; exact hm
    · refine grown (some ⟨b, 0, none⟩) S.length (by omega) (run_firstCells_some w.drew i.size xs.length ⟨b, 0, none⟩ xs.length S.length _ (by simp [hsize]) (fun j u hj => ?_))
      have hj' : j < xs.length := by have := (List.getElem?_eq_some_iff.1 hj).1; simpa using this
      have hadd : (⟨b, 0, none⟩ : Addr).add j = ⟨b, j, none⟩ := by simp [Addr.add]; try omega
      have := hA.cell j (by omega)
      rw [hadd]
      have e1 : (w.drew).cell? ⟨b, j, none⟩ = w.cell? ⟨b, j, none⟩ := rfl
      rw [e1, this, ← hj]
      have e2 : S.getD j 0 = xs.getD j 0 := by
        have : (S.take xs.length).getD j 0 = S.getD j 0 := by simp [List.getD, hj']
        rw [← this, htk]
      rw [e2]; simp [hj']

theorem wpList_ap {P : Program} {w : World} {ops : Array Oper} {rest : List Oper} {o : Oper} {a : Act} {Q : Exit → Act → World → Prop} (hgd : o.guard = none) (s x : Operand) (t tx : TypeId)
    (ho : o.op = .call { callee := .builtin .append, args := #[s, x], argTypes := #[t, tx] }) (k : IntKind) (e : TypeId) (bytes : Nat) (ht : P.underlying t = some (.slice e))
    (hi : (P.info? e).map (fun i => (i.zero, i.size, i.bytes)) = some (some (.int k 0), 1, bytes)) (hby : 0 < bytes)
    (B : Nat) (v : Value) (xs : List Int) (hs : a.eval s = v) (hr : Row k e B w v xs) (u : Value) (ys : List Int) (hx : a.eval x = u) (hy : Src P 1 tx u ys.length (ys.map (Value.int k)) w)
    (hb : (xs.length + ys.length) * bytes ≤ 140737488355328) (hB : B ≤ w.heap.size)
    (h : ∀ v' w', Row k e B w' v' (xs ++ ys) → Grew k e w w' v ys → wpList P ops Q rest (a.put o.dst v') w') : wpList P ops Q (o :: rest) a w := by
  obtain ⟨i0, hi0, hz0, hz1, hz2⟩ := info_parts hi
  refine wpList_plain hgd fun K hK => ?_
  obtain ⟨v', w', hrun, h2, h3⟩ := run_ap (P := P) w t tx o.type e i0 k ht hi0 hz0 hz1 (by omega) hr hy (by rw [hz2]; exact hb) hB
  unfold Oper.wp execOp
  simp only [ho, resolve, invoke, builtin, Sem.run_bind, Sem.run_pure, Result.andThen_ok, List.map_toArray, List.map_cons, List.map_nil, hs, hx, hrun]
  exact hK _ _ (h v' w' h2 h3)
/-- The same, as one step of a region that draws its order. -/
theorem step_ap {P : Program} {ops : Array Oper} {o : Oper} {a : Act} {w : World} {K : Act → World → Prop} {Q : Exit → Act → World → Prop} {E : Prop} (hgd : o.guard = none) (s x : Operand) (t tx : TypeId)
    (ho : o.op = .call { callee := .builtin .append, args := #[s, x], argTypes := #[t, tx] }) (k : IntKind) (e : TypeId) (bytes : Nat) (ht : P.underlying t = some (.slice e))
    (hi : (P.info? e).map (fun i => (i.zero, i.size, i.bytes)) = some (some (.int k 0), 1, bytes)) (hby : 0 < bytes)
    (B : Nat) (v : Value) (xs : List Int) (hs : a.eval s = v) (hr : Row k e B w v xs) (u : Value) (ys : List Int) (hx : a.eval x = u) (hy : Src P 1 tx u ys.length (ys.map (Value.int k)) w)
    (hb : (xs.length + ys.length) * bytes ≤ 140737488355328) (hB : B ≤ w.heap.size)
    (h : ∀ v' w', Row k e B w' v' (xs ++ ys) → Grew k e w w' v ys → K (a.put o.dst v') w') : if Region.wanted o (yielded ops a.tmps) = true then Oper.wp P o a w K Q else E := by
  have hw : Region.wanted o (yielded ops a.tmps) = true := by simp [Region.wanted, hgd]
  rw [if_pos hw]
  obtain ⟨i0, hi0, hz0, hz1, hz2⟩ := info_parts hi
  obtain ⟨v', w', hrun, h2, h3⟩ := run_ap (P := P) w t tx o.type e i0 k ht hi0 hz0 hz1 (by omega) hr hy (by rw [hz2]; exact hb) hB
  unfold Oper.wp execOp
  simp only [ho, resolve, invoke, builtin, Sem.run_bind, Sem.run_pure, Result.andThen_ok, List.map_toArray, List.map_cons, List.map_nil, hs, hx, hrun]
  exact h v' w' h2 h3
end Go.Proofs.YtillkhjihggcjaaGreatDoor
/-
  Blocks of cells of any kind (arrays, structs): loaded from and stored into whole or in part.
-/
namespace Go.Proofs.YtillkhjihggcjaaGreatDoor
open Go.RowKit

/-- Block b is whole, not frozen, and holds cs. -/
def Blk (T : TypeId) (w : World) (b : Nat) (cs : List Value) : Prop := w.heap[b]? = some (.cells cs.toArray T (0, 0))
/-- cs with vs written over it from o on. -/
def over (cs : List Value) (o : Nat) (vs : List Value) : List Value := cs.take o ++ (vs ++ cs.drop (o + vs.length))
theorem Arr.blk {k : IntKind} {e : TypeId} {w : World} {b : Nat} {xs : List Int} (h : Arr k e w b xs) : Blk e w b (xs.map (Value.int k)) := h
theorem Blk.arr {k : IntKind} {e : TypeId} {w : World} {b : Nat} {xs : List Int} (h : Blk e w b (xs.map (Value.int k))) : Arr k e w b xs := h
theorem Blk.lt {T : TypeId} {w : World} {b : Nat} {cs : List Value} (h : Blk T w b cs) : b < w.heap.size := (Array.getElem?_eq_some_iff.1 h).1
theorem Blk.cell {T : TypeId} {w : World} {b : Nat} {cs : List Value} (h : Blk T w b cs) (i : Nat) : w.cell? ⟨b, i, none⟩ = cs[i]? := by
  rw [cell_of_row w b i _ T (0, 0) h]; simp
theorem Blk.frozen {T : TypeId} {w : World} {b : Nat} {cs : List Value} (h : Blk T w b cs) (i : Nat) : w.frozen? ⟨b, i, none⟩ = false := frozen_of_row w b i _ T h
theorem Blk.set {T : TypeId} {w : World} {b : Nat} {cs : List Value} (h : Blk T w b cs) (i : Nat) (v : Value) : Blk T (w.setCell ⟨b, i, none⟩ v) b (cs.set i v) := by
  unfold Blk; rw [heap_setCell_same w b i _ T _ h]; simp
theorem Blk.range {T : TypeId} {w : World} {b : Nat} {cs : List Value} (h : Blk T w b cs) (o : Nat) (vs : List Value) (hv : (cs.drop o).take vs.length = vs) : w.rangeAt b o vs := by
  intro j v hj
  rw [h.cell]
  have hlt : j < vs.length := (List.getElem?_eq_some_iff.1 hj).1
  rw [← hv, List.getElem?_take, if_pos hlt, List.getElem?_drop] at hj
  exact hj
theorem Blk.whole {T : TypeId} {w : World} {b : Nat} {cs : List Value} (h : Blk T w b cs) : w.rangeAt b 0 cs := h.range 0 cs (by simp)
theorem Blk.there {T : TypeId} {w : World} {b : Nat} {cs : List Value} (h : Blk T w b cs) (o n : Nat) (ho : o + n ≤ cs.length) : w.there b o n := by
  intro j hj
  rw [h.cell, h.frozen]
  exact ⟨by simp [show o + j < cs.length by omega], rfl⟩
theorem setCells_blk {T : TypeId} {b : Nat} : ∀ (vs : List Value) (o : Nat) (w : World) (cs : List Value), Blk T w b cs → o + vs.length ≤ cs.length → Blk T (w.setCells b o vs) b (over cs o vs)
  | [], o, w, cs, h, _ => by simpa [over, World.setCells] using h
  | v :: vs, o, w, cs, h, ho => by
    simp only [List.length_cons] at ho
    have h1 := setCells_blk vs (o + 1) _ _ (h.set o v) (by simp; omega)
    simp only [World.setCells]
    have e : over (cs.set o v) (o + 1) vs = over cs o (v :: vs) := by
      unfold over
      rw [List.take_set, List.drop_set_of_lt (by omega), List.take_succ_eq_append_getElem (by omega), List.set_append_right _ _ (by simp; omega)]
      simp [show o ≤ cs.length by omega, Nat.add_assoc, Nat.add_comm 1]
    rw [e] at h1; exact h1
theorem Blk.setCells {T : TypeId} {w : World} {b : Nat} {cs : List Value} (h : Blk T w b cs) (o : Nat) (vs : List Value) (ho : o + vs.length ≤ cs.length) : Blk T (w.setCells b o vs) b (over cs o vs) := setCells_blk vs o w cs h ho
theorem Blk.fill {T : TypeId} {w : World} {b : Nat} {cs : List Value} (h : Blk T w b cs) (vs : List Value) (ho : vs.length = cs.length) : Blk T (w.setCells b 0 vs) b vs := by
  have := h.setCells 0 vs (by omega)
  rw [show over cs 0 vs = vs by simp [over, ho]] at this; exact this
theorem Upd.setCells {b : Nat} : ∀ (vs : List Value) (o : Nat) (w : World), Upd w (w.setCells b o vs) b
  | [], _, w => Upd.refl w b
  | v :: vs, o, w => (Upd.set w b o v).trans (Upd.setCells vs (o + 1) _)
theorem Upd.blk {T : TypeId} {w w' : World} {b b' : Nat} {cs : List Value} (h : Upd w w' b) (ha : Blk T w b' cs) (hne : b' ≠ b) : Blk T w' b' cs := by
  unfold Blk; rw [h.block b' ha.lt (by simp [hne])]; exact ha
theorem below_blk {B : Nat} {T : TypeId} {w w' : World} {b : Nat} {cs : List Value} (h : Below B w w') (hb : b < B) (ha : Blk T w b cs) : Blk T w' b cs := by
  unfold Blk; rw [h.block b hb]; exact ha
theorem Blk.alloc {T : TypeId} {w : World} {b : Nat} {cs : List Value} (h : Blk T w b cs) (o : Obj) : Blk T (w.alloc o) b cs :=
  below_blk ((Below.refl _ _).alloc (Nat.le_refl _) o) h.lt h
theorem Blk.new (T : TypeId) (w : World) (cs : List Value) : Blk T (w.alloc (.cells cs.toArray T)) w.heap.size cs := by
  unfold Blk; rw [heap_alloc_new]
theorem Blk.drewN {T : TypeId} {w : World} {b : Nat} {cs : List Value} (h : Blk T w b cs) (n : Nat) : Blk T (w.drewN n) b cs := h
theorem ints_one (k : IntKind) (xs : List Int) : (xs.map (Value.int k)).toArray.all (·.oneCell') = true :=
  all_oneCell_toArray (fun v hv => by obtain ⟨x, _, rfl⟩ := List.mem_map.1 hv; rfl)
theorem below_drewN {B : Nat} {w w' : World} (n : Nat) (h : Below B w w') : Below B w (w'.drewN n) := h.trans ⟨rfl, rfl, rfl, Nat.le_refl _, fun _ _ => rfl⟩
/-- A function with one result that lies in a block of its own. -/
theorem results_blk {P : Program} {fn : Func} {T : TypeId} {t : Tmp} (h : fn.results = #[.cell t T]) {a : Array Value} {w : World} {b : Nat} {cs : List Value} {d : TypeDesc} (ha : a.getD t undef = .pointer (some ⟨b, 0, none⟩))
    (hb : Blk T w b cs) (hu : P.underlying T = some d) (hd : d.isRow = true) (hi : (P.info? T).map (·.size) = some cs.length) : (results fn a).run P w = .ok (.agg cs.toArray) w := by
  have := run_loadVar_mid (P := P) w b 0 T cs d hb.whole hu hd hi
  have ha' : a[t]?.getD undef = .pointer (some ⟨b, 0, none⟩) := by simpa using ha
  simp [results, h, ha', asAddr, this]
/-- 'x[i]' of an array by value, its elements numbers. -/
theorem run_index_row {P : Program} (w : World) (T e : TypeId) (n : Nat) (k : IntKind) (cs : List Int) (t : Nat) (h : P.underlying T = some (.array n e)) (he : P.underlying e = some (.int k)) (h1 : (P.info? e).map (·.size) = some 1) (hn : cs.length = n) (ht : t < n) :
    (Instr.index T (.agg (cs.map (Value.int k)).toArray) (.int .i64 t)).run P w = .ok (.int k (cs.getD t 0)) w := by
  have h2 : (0 : Int) ≤ (t : Int) ∧ (t : Int) < (n : Int) := by omega
  cases hq : P.info? e with
  | none => simp [hq] at h1
  | some i =>
    have hs : i.size = 1 := by simpa [hq] using h1
    simp [Instr.index, run_underlying h, asIntOf, h2, part, isAgg, run_underlying he, sizeOf, typeInfo, hq, hs, show t < cs.length by omega]
    omega
end Go.Proofs.YtillkhjihggcjaaGreatDoor
