/-
  Policy: rows of texts; what is put into a sorted row, once; sorted, each once. Pure.
-/
import Derived.Lib.SlicesCompact
namespace Go.Proofs.YtkjdihikcgpababDoor
open Go.Lib
abbrev Tx := List UInt8
/-- Of texts the sorted ones: each is before the next one. -/
def SS (l : List Tx) : Prop := l.Pairwise (fun x y => x < y)
/-- s goes down from the end of a row, which is told from its end. -/
def dwn : List Tx → Tx → List Tx
  | [], s => [s]
  | y :: r, s => if s < y then y :: dwn r s else s :: y :: r
/-- A text into a row, once. -/
def put (l : List Tx) (s : Tx) : List Tx := if s ∈ l then l else (dwn l.reverse s).reverse
/-- Sorted, each once. -/
def srt (l : List Tx) : List Tx := compactUpTo (l.mergeSort fun x y => decide (x ≤ y)).toArray (l.mergeSort fun x y => decide (x ≤ y)).length
theorem tx_total (a b : Tx) : a < b ∨ a = b ∨ b < a := by
  by_cases h : a < b
  · exact .inl h
  · by_cases h' : b < a
    · exact .inr (.inr h')
    · exact .inr (.inl (List.le_antisymm (List.not_lt.1 h') (List.not_lt.1 h)))
theorem tx_lt_of_le {a b : Tx} (h : a ≤ b) (hn : a ≠ b) : a < b := by
  rcases tx_total a b with h' | h' | h'
  · exact h'
  · exact absurd h' hn
  · exact absurd h (List.not_le.2 h')
theorem mem_dwn (r : List Tx) (s x : Tx) : x ∈ dwn r s ↔ x = s ∨ x ∈ r := by
  induction r with
  | nil => simp [dwn]
  | cons y r ih =>
    unfold dwn
    split
    · rw [List.mem_cons, ih, List.mem_cons]
      constructor
      · rintro (h | h | h) <;> simp [h]
      · rintro (h | h | h) <;> simp [h]
    · simp
theorem mem_put (l : List Tx) (s x : Tx) : x ∈ put l s ↔ x = s ∨ x ∈ l := by
  unfold put
  split
  · rename_i h
    constructor
    · exact .inr
    · rintro (rfl | h') <;> assumption
  · rw [List.mem_reverse, mem_dwn, List.mem_reverse]
theorem dwn_len (r : List Tx) (s : Tx) : (dwn r s).length = r.length + 1 := by
  induction r with
  | nil => rfl
  | cons y r ih => unfold dwn; split <;> simp [ih]
theorem dwn_ss (r : List Tx) (s : Tx) (h : r.Pairwise (fun x y => y < x)) (hn : s ∉ r) : (dwn r s).Pairwise (fun x y => y < x) := by
  induction r with
  | nil => simp [dwn]
  | cons y r ih =>
    rw [List.pairwise_cons] at h
    unfold dwn
    split
    · rename_i hs
      rw [List.pairwise_cons]
      refine ⟨fun z hz => ?_, ih h.2 (fun e => hn (List.mem_cons_of_mem _ e))⟩
      rcases (mem_dwn r s z).1 hz with rfl | hz
      · exact hs
      · exact h.1 z hz
    · rename_i hs
      have hy : y < s := by
        rcases tx_total s y with h' | rfl | h'
        · exact absurd h' hs
        · exact absurd List.mem_cons_self hn
        · exact h'
      rw [List.pairwise_cons, List.pairwise_cons]
      refine ⟨fun z hz => ?_, h⟩
      rcases List.mem_cons.1 hz with rfl | hz
      · exact hy
      · exact List.lt_trans (h.1 z hz) hy
theorem put_ss (l : List Tx) (s : Tx) (h : SS l) : SS (put l s) := by
  unfold put
  split
  · exact h
  · rename_i hn
    unfold SS
    rw [List.pairwise_reverse]
    exact dwn_ss _ _ (by rw [List.pairwise_reverse]; exact h) (fun e => hn (List.mem_reverse.1 e))
theorem ss_ext {a b : List Tx} (ha : SS a) (hb : SS b) (h : ∀ x, x ∈ a ↔ x ∈ b) : a = b := by
  have na : a.Nodup := List.Pairwise.imp (fun {x y} (hxy : x < y) (e : x = y) => List.lt_irrefl y (e ▸ hxy)) ha
  have nb : b.Nodup := List.Pairwise.imp (fun {x y} (hxy : x < y) (e : x = y) => List.lt_irrefl y (e ▸ hxy)) hb
  refine ((List.perm_ext_iff_of_nodup na nb).2 h).eq_of_pairwise (le := fun x y => x < y) (fun x y _ _ h1 h2 => absurd (List.lt_trans h1 h2) (List.lt_irrefl _)) ha hb
theorem ms_pair (l : List Tx) : (l.mergeSort fun x y => decide (x ≤ y)).Pairwise (fun x y => x ≤ y) := by
  have h := List.pairwise_mergeSort (le := fun x y : Tx => decide (x ≤ y)) (fun a b c h1 h2 => by simp only [decide_eq_true_eq] at *; exact List.le_trans h1 h2) (fun a b => by simp only [Bool.or_eq_true, decide_eq_true_eq]; exact List.le_total a b) l
  exact h.imp (fun {a b} h => by simpa using h)
theorem ms_mem (l : List Tx) (x : Tx) : x ∈ (l.mergeSort fun x y => decide (x ≤ y)) ↔ x ∈ l := (List.mergeSort_perm l _).mem_iff
theorem ms_len (l : List Tx) : (l.mergeSort fun x y => decide (x ≤ y)).length = l.length := (List.mergeSort_perm l _).length_eq
/-- What stays of a sorted row where each text stays once. -/
theorem cmp_inv (m : List Tx) (h : m.Pairwise (fun x y => x ≤ y)) : ∀ n, n ≤ m.length → SS (compactUpTo m.toArray n) ∧ (∀ x, x ∈ compactUpTo m.toArray n ↔ x ∈ m.take n) := by
  intro n
  induction n with
  | zero => intro _; simp [compactUpTo, SS]
  | succ n ih =>
    intro hn
    obtain ⟨i1, i2⟩ := ih (by omega)
    have hg : m.toArray[n]! = m[n] := by simp [getElem!_pos, show n < m.length by omega]
    have ht : m.take (n + 1) = m.take n ++ [m[n]] := List.take_succ_eq_append_getElem (by omega)
    rw [compactUpTo_succ, ht, hg]
    by_cases hk : keeps m.toArray n = true
    · rw [if_pos hk]
      have hlt : ∀ x ∈ compactUpTo m.toArray n, x < m[n] := by
        intro x hx
        have hx' := (i2 x).1 hx
        obtain ⟨j, hj, rfl⟩ := List.mem_iff_getElem.1 hx'
        rw [List.getElem_take] at hx ⊢
        have hj' : j < n := by simp at hj; omega
        have h0 : n ≠ 0 := by omega
        have hg1 : m.toArray[n - 1]! = m[n - 1] := by simp [getElem!_pos, show n - 1 < m.length by omega]
        have hne : m[n] ≠ m[n - 1] := by
          have := hk
          unfold keeps at this
          rw [decide_eq_true_eq, hg, hg1] at this
          rcases this with h | h
          · exact absurd h h0
          · exact h
        have h1 : m[n - 1] ≤ m[n] := List.pairwise_iff_getElem.1 h (n - 1) n (by omega) (by omega) (by omega)
        have h2 : m[n - 1] < m[n] := tx_lt_of_le h1 (Ne.symm hne)
        by_cases he : j = n - 1
        · subst he; exact h2
        · have h3 : m[j] ≤ m[n - 1] := List.pairwise_iff_getElem.1 h j (n - 1) (by omega) (by omega) (by omega)
          exact List.lt_of_le_of_lt h3 h2
      refine ⟨?_, fun x => by rw [List.mem_append, List.mem_append, i2 x]⟩
      unfold SS
      rw [List.pairwise_append]
      exact ⟨i1, by simp, fun x hx y hy => by simp at hy; subst hy; exact hlt x hx⟩
    · rw [if_neg hk, List.append_nil]
      refine ⟨i1, fun x => ?_⟩
      rw [i2 x]
      have h0 : n ≠ 0 := by rintro rfl; exact hk (keeps_lt_one _ 0 (by omega))
      have hg1 : m.toArray[n - 1]! = m[n - 1] := by simp [getElem!_pos, show n - 1 < m.length by omega]
      have heq : m[n] = m[n - 1] := by
        have := hk
        unfold keeps at this
        rw [decide_eq_true_eq, hg, hg1] at this
        by_cases e : m[n] = m[n - 1]
        · exact e
        · exact absurd (.inr e) this
      constructor
      · intro hx; exact List.mem_append_left _ hx
      · intro hx
        rcases List.mem_append.1 hx with hx | hx
        · exact hx
        · simp at hx
          rw [hx, heq]
          exact List.mem_iff_getElem.2 ⟨n - 1, by simp; omega, by simp⟩
theorem srt_ss (l : List Tx) : SS (srt l) := (cmp_inv _ (ms_pair l) _ (Nat.le_refl _)).1
theorem mem_srt (l : List Tx) (x : Tx) : x ∈ srt l ↔ x ∈ l := by
  unfold srt
  rw [(cmp_inv _ (ms_pair l) _ (Nat.le_refl _)).2 x, List.take_length, ms_mem]
theorem nil_ss : SS [] := List.Pairwise.nil
/-- Sorted is what has the same texts and is sorted. -/
theorem srt_eq {l m : List Tx} (hm : SS m) (h : ∀ x, x ∈ m ↔ x ∈ l) : srt l = m := ss_ext (srt_ss l) hm (fun x => by rw [mem_srt, h x])
theorem srt_le (l : List Tx) : (srt l).length ≤ l.length := by
  have : (srt l).length ≤ (List.range (l.mergeSort fun x y => decide (x ≤ y)).length).length := by
    unfold srt compactUpTo
    rw [List.length_map]
    exact List.length_filter_le _ _
  rw [List.length_range, ms_len] at this
  exact this
end Go.Proofs.YtkjdihikcgpababDoor
/-
  Policy: what is there ahead of the first certificate, what a step does, what is asked at the end; both ways to say it. Pure.
-/
namespace Go.Proofs.YtkjdihikcgpababDoor
/-- The text of any policy: 2.5.29.32.0. -/
def anyP : Tx := [50, 46, 53, 46, 50, 57, 46, 51, 50, 46, 48]
/-- Those of l, but any policy, that are in S, or all of them if any policy is in it. -/
def adm (S l : List Tx) : List Tx := l.filter fun x => decide (x ≠ anyP) && (decide (anyP ∈ S) || decide (x ∈ S))
theorem adm_app (S l m : List Tx) : adm S (l ++ m) = adm S l ++ adm S m := List.filter_append ..
theorem adm_len (S l : List Tx) : (adm S l).length ≤ l.length := List.length_filter_le _ _
theorem mem_adm (S l : List Tx) (x : Tx) : x ∈ adm S l ↔ x ∈ l ∧ x ≠ anyP ∧ (anyP ∈ S ∨ x ∈ S) := by
  unfold adm
  rw [List.mem_filter]
  simp
/-- The new set: ok: any policy counts. -/
def heldS (S pols : List Tx) (ok : Bool) : List Tx := srt (adm S pols ++ if decide (anyP ∈ pols) && ok then S else [])
/-- One policy of the certificate's, in the reference's way. -/
def rpol (S : List Tx) (ok : Bool) (m : List Tx) (s : Tx) : List Tx :=
  let m1 := if decide (s ≠ anyP) && (decide (anyP ∈ S) || decide (s ∈ S)) then put m s else m
  if decide (s = anyP) && ok then S.foldl put m1 else m1
theorem fput_ss (l : List Tx) : ∀ m, SS m → SS (l.foldl put m) := by
  induction l with
  | nil => exact fun m h => h
  | cons x l ih => exact fun m h => ih _ (put_ss m x h)
theorem mem_fput (l : List Tx) : ∀ m x, x ∈ l.foldl put m ↔ x ∈ l ∨ x ∈ m := by
  induction l with
  | nil => simp
  | cons y l ih =>
    intro m x
    rw [List.foldl_cons, ih, mem_put, List.mem_cons]
    constructor
    · rintro (h | h | h) <;> simp [h]
    · rintro ((h | h) | h) <;> simp [h]
theorem rpol_ss {S m : List Tx} (ok : Bool) (s : Tx) (h : SS m) : SS (rpol S ok m s) := by
  have h1 : SS (if decide (s ≠ anyP) && (decide (anyP ∈ S) || decide (s ∈ S)) then put m s else m) := by
    split
    · exact put_ss _ _ h
    · exact h
  unfold rpol
  simp only []
  split
  · exact fput_ss _ _ h1
  · exact h1
theorem mem_rpol (S m : List Tx) (ok : Bool) (s x : Tx) : x ∈ rpol S ok m s ↔ (x ∈ m ∨ (x = s ∧ s ≠ anyP ∧ (anyP ∈ S ∨ s ∈ S)) ∨ (s = anyP ∧ ok = true ∧ x ∈ S)) := by
  unfold rpol
  by_cases hs : s = anyP
  · subst hs
    cases ok
    · simp
    · simp only [ne_eq, not_true_eq_false, decide_false, Bool.false_and, Bool.false_eq_true, if_false, decide_true, Bool.and_self, if_true, false_and, and_false, false_or, true_and]
      rw [mem_fput]
      exact ⟨fun h => h.symm, fun h => h.symm⟩
  · by_cases hc : anyP ∈ S ∨ s ∈ S
    · have e : (decide (s ≠ anyP) && (decide (anyP ∈ S) || decide (s ∈ S))) = true := by simp [hs, hc]
      have e2 : (decide (s = anyP) && ok) = false := by simp [hs]
      simp only [e, e2, if_true, Bool.false_eq_true, if_false]
      rw [mem_put]
      constructor
      · rintro (h | h)
        · exact .inr (.inl ⟨h, hs, hc⟩)
        · exact .inl h
      · rintro (h | ⟨h, _⟩ | ⟨h, _⟩)
        · exact .inr h
        · exact .inl h
        · exact absurd h hs
    · have e : (decide (s ≠ anyP) && (decide (anyP ∈ S) || decide (s ∈ S))) = false := by
        rw [Bool.and_eq_false_iff]
        right
        rw [Bool.or_eq_false_iff]
        exact ⟨decide_eq_false fun h => hc (.inl h), decide_eq_false fun h => hc (.inr h)⟩
      have e2 : (decide (s = anyP) && ok) = false := by simp [hs]
      simp only [e, e2, Bool.false_eq_true, if_false]
      constructor
      · exact .inl
      · rintro (h | ⟨_, _, h⟩ | ⟨h, _⟩)
        · exact h
        · exact absurd h hc
        · exact absurd h hs
theorem rpols_ss (S : List Tx) (ok : Bool) (l : List Tx) : ∀ m, SS m → SS (l.foldl (rpol S ok) m) := by
  induction l with
  | nil => exact fun m h => h
  | cons x l ih => exact fun m h => ih _ (rpol_ss ok x h)
theorem mem_rpols (S : List Tx) (ok : Bool) (l : List Tx) : ∀ m x, x ∈ l.foldl (rpol S ok) m ↔ (x ∈ m ∨ (x ∈ l ∧ x ≠ anyP ∧ (anyP ∈ S ∨ x ∈ S)) ∨ (anyP ∈ l ∧ ok = true ∧ x ∈ S)) := by
  induction l with
  | nil => simp
  | cons y l ih =>
    intro m x
    rw [List.foldl_cons, ih, mem_rpol, List.mem_cons, List.mem_cons]
    constructor
    · rintro ((h | ⟨rfl, h⟩ | ⟨rfl, h⟩) | ⟨h, h'⟩ | ⟨h, h'⟩)
      · exact .inl h
      · exact .inr (.inl ⟨.inl rfl, h⟩)
      · exact .inr (.inr ⟨.inl rfl, h⟩)
      · exact .inr (.inl ⟨.inr h, h'⟩)
      · exact .inr (.inr ⟨.inr h, h'⟩)
    · rintro (h | ⟨rfl | h, h'⟩ | ⟨h | h, h'⟩)
      · exact .inl (.inl h)
      · exact .inl (.inr (.inl ⟨rfl, h'⟩))
      · exact .inr (.inl ⟨h, h'⟩)
      · exact .inl (.inr (.inr ⟨h.symm, h'⟩))
      · exact .inr (.inr ⟨h, h'⟩)
/-- Both ways come to one set. -/
theorem held_eq (S pols : List Tx) (ok : Bool) : heldS S pols ok = pols.foldl (rpol S ok) [] := by
  unfold heldS
  refine srt_eq (rpols_ss S ok pols [] nil_ss) fun x => ?_
  rw [mem_rpols, List.mem_append, mem_adm]
  have e : x ∈ (if (decide (anyP ∈ pols) && ok) = true then S else []) ↔ (anyP ∈ pols ∧ ok = true ∧ x ∈ S) := by
    split
    · rename_i h
      rw [Bool.and_eq_true, decide_eq_true_eq] at h
      simp [h]
    · rename_i h
      rw [Bool.and_eq_true, decide_eq_true_eq] at h
      constructor
      · intro h'; cases h'
      · rintro ⟨h1, h2, _⟩; exact absurd ⟨h1, h2⟩ h
  rw [e]
  simp
/-- Which hold at the end of those that are asked for. -/
def grant (S user : List Tx) : List Tx := if user = [] ∨ anyP ∈ user then srt S else srt (adm S user)
/-- .. in the reference's way. -/
def rgrant (S user : List Tx) : List Tx :=
  let free := decide (user = []) || decide (anyP ∈ user)
  let o := S.foldl (fun m s => if free || decide (s ∈ user) then put m s else m) []
  if !free && decide (anyP ∈ S) then user.foldl put o else o
theorem fput_if (f : Tx → Bool) (l : List Tx) : ∀ m, l.foldl (fun m s => if f s then put m s else m) m = (l.filter f).foldl put m := by
  induction l with
  | nil => exact fun _ => rfl
  | cons x l ih =>
    intro m
    rw [List.foldl_cons, ih, List.filter_cons]
    cases f x <;> simp
theorem grant_eq (S user : List Tx) : grant S user = rgrant S user := by
  have ho := fput_if (fun s => (decide (user = []) || decide (anyP ∈ user)) || decide (s ∈ user)) S []
  unfold grant rgrant
  simp only [ho]
  by_cases hf : user = [] ∨ anyP ∈ user
  · have e : (decide (user = []) || decide (anyP ∈ user)) = true := by simpa using hf
    rw [if_pos hf]
    simp only [e, Bool.not_true, Bool.false_and, Bool.false_eq_true, if_false, Bool.true_or]
    refine srt_eq (fput_ss _ _ nil_ss) fun x => ?_
    rw [mem_fput, List.mem_filter]; simp
  · have e : (decide (user = []) || decide (anyP ∈ user)) = false := by
      rw [Bool.or_eq_false_iff]
      exact ⟨decide_eq_false fun h => hf (.inl h), decide_eq_false fun h => hf (.inr h)⟩
    have hn : anyP ∉ user := fun h => hf (.inr h)
    rw [if_neg hf]
    simp only [e, Bool.not_false, Bool.true_and, Bool.false_or]
    by_cases ha : anyP ∈ S
    · rw [if_pos (decide_eq_true ha)]
      refine srt_eq (fput_ss _ _ (fput_ss _ _ nil_ss)) fun x => ?_
      rw [mem_fput, mem_fput, List.mem_filter, mem_adm]
      constructor
      · rintro (h | ⟨h, h'⟩ | h)
        · exact ⟨h, fun e => hn (e ▸ h), .inl ha⟩
        · have h' : x ∈ user := by simpa using h'
          exact ⟨h', fun e => hn (e ▸ h'), .inl ha⟩
        · cases h
      · exact fun h => .inl h.1
    · rw [if_neg (by simpa using ha)]
      refine srt_eq (fput_ss _ _ nil_ss) fun x => ?_
      rw [mem_fput, List.mem_filter, mem_adm]
      constructor
      · rintro (⟨h, h'⟩ | h)
        · have h' : x ∈ user := by simpa using h'
          exact ⟨h', fun e => hn (e ▸ h'), .inr h⟩
        · cases h
      · rintro ⟨h, _, h' | h'⟩
        · exact absurd h' ha
        · exact .inl ⟨h', by simpa using h⟩
/-- 1 less, where it is above 0. -/
def less (n : Int) : Int := if 0 < n then n - 1 else n
/-- A bound, where one is said and is less. -/
def bnd (n b : Int) : Int := if 0 ≤ b ∧ b < n then b else n
/-- What is left of policies: the set, and both counts. -/
structure Po where
  S : List Tx
  e : Int
  a : Int
def startP (n : Int) (ex inh : Bool) : Po := ⟨[anyP], if ex then 0 else min (max n 0) 8 + 1, if inh then 0 else min (max n 0) 8 + 1⟩
/-- What counts of a certificate. -/
structure Ce where
  P : List Tx
  r : Int
  i : Int
  own : Bool
def stepP (p : Po) (c : Ce) (last : Bool) : Po × Bool :=
  let s := heldS p.S c.P (decide (0 < p.a) || (!last && c.own))
  if s = [] ∧ p.e ≤ 0 then (⟨[], 0, 0⟩, false)
  else if last then (⟨s, p.e, p.a⟩, true)
  else (⟨s, bnd (if c.own then p.e else less p.e) c.r, bnd (if c.own then p.a else less p.a) c.i⟩, true)
def endP (p : Po) (c : Ce) (user : List Tx) : List Tx × Bool :=
  let l := grant p.S user
  if l = [] ∧ (if c.r = 0 then 0 else less p.e) ≤ 0 then ([], false) else (l, true)
end Go.Proofs.YtkjdihikcgpababDoor
/-
  Policy: the place at which a text comes into a sorted row. Pure.
-/
namespace Go.Proofs.YtkjdihikcgpababDoor
open Go.Lib
/-- s stands at k. -/
def insAt (l : List Tx) (s : Tx) (k : Nat) : List Tx := l.take k ++ s :: l.drop k
theorem insAt_len (l : List Tx) (s : Tx) (k : Nat) (hk : k ≤ l.length) : (insAt l s k).length = l.length + 1 := by
  unfold insAt
  simp
  omega
theorem insAt_all (l : List Tx) (s : Tx) : insAt l s l.length = l ++ [s] := by simp [insAt]
theorem insAt_here (l : List Tx) (s : Tx) (k : Nat) (hk : k ≤ l.length) : (insAt l s k)[k]? = some s := by
  unfold insAt
  rw [List.getElem?_append_right (by simp; omega)]
  simp [Nat.min_eq_left hk]
theorem insAt_left (l : List Tx) (s : Tx) (k : Nat) (hk : k ≤ l.length) (h0 : 0 < k) : (insAt l s k)[k - 1]? = l[k - 1]? := by
  unfold insAt
  rw [List.getElem?_append_left (by simp; omega), List.getElem?_take, if_pos (by omega)]
theorem insAt_swap (l : List Tx) (s : Tx) (k : Nat) (hk : k ≤ l.length) (h0 : 0 < k) (x : Tx) (hx : l[k - 1]? = some x) : ((insAt l s k).set k x).set (k - 1) s = insAt l s (k - 1) := by
  apply List.ext_getElem?
  intro i
  rw [List.getElem?_set, List.getElem?_set]
  have hl1 := insAt_len l s k hk
  have hl2 := insAt_len l s (k - 1) (by omega)
  by_cases h1 : k - 1 = i
  · subst h1
    rw [if_pos rfl, if_pos (by simp [hl1]; omega), insAt_here l s (k - 1) (by omega)]
  · rw [if_neg h1]
    by_cases h2 : k = i
    · subst h2
      rw [if_pos rfl, if_pos (by omega)]
      unfold insAt
      rw [List.getElem?_append_right (by simp; omega)]
      have e : k - (List.take (k - 1) l).length = 1 := by simp; omega
      rw [e]
      simp [hx]
    · rw [if_neg h2]
      unfold insAt
      by_cases h3 : i < k - 1
      · rw [List.getElem?_append_left (by simp; omega), List.getElem?_append_left (by simp; omega), List.getElem?_take, List.getElem?_take, if_pos (by omega), if_pos h3]
      · have h4 : k < i := by omega
        rw [List.getElem?_append_right (by simp; omega), List.getElem?_append_right (by simp; omega)]
        have e1 : i - (List.take k l).length = (i - k - 1) + 1 := by simp; omega
        have e2 : i - (List.take (k - 1) l).length = (i - k) + 1 := by simp; omega
        rw [e1, e2, List.getElem?_cons_succ, List.getElem?_cons_succ, List.getElem?_drop, List.getElem?_drop]
        congr 1
        omega
theorem dwn_past (r q : List Tx) (s : Tx) (h : ∀ y ∈ r, s < y) : dwn (r ++ q) s = r ++ dwn q s := by
  induction r with
  | nil => rfl
  | cons y r ih =>
    rw [List.cons_append, List.cons_append]
    show (if s < y then y :: dwn (r ++ q) s else s :: y :: (r ++ q)) = _
    rw [if_pos (h y (by simp)), ih (fun z hz => h z (List.mem_cons_of_mem _ hz))]
theorem put_at (l : List Tx) (s : Tx) (k : Nat) (hk : k ≤ l.length) (hn : s ∉ l) (h : ∀ y ∈ l.drop k, s < y) (h0 : k = 0 ∨ ∃ x, l[k - 1]? = some x ∧ ¬ s < x) : put l s = insAt l s k := by
  unfold put
  rw [if_neg hn]
  have e : l.reverse = (l.drop k).reverse ++ (l.take k).reverse := by rw [← List.reverse_append, List.take_append_drop]
  rw [e, dwn_past _ _ _ (fun y hy => h y (List.mem_reverse.1 hy)), List.reverse_append, List.reverse_reverse]
  unfold insAt
  rcases h0 with rfl | ⟨x, hx, hlt⟩
  · rfl
  · have hkp : k - 1 < l.length := (List.getElem?_eq_some_iff.1 hx).1
    by_cases hz : k = 0
    · subst hz; rfl
    · have e2 : l.take k = l.take (k - 1) ++ [x] := by
        have := List.take_succ_eq_append_getElem (l := l) (i := k - 1) hkp
        rw [show k - 1 + 1 = k by omega] at this
        rw [this, (List.getElem?_eq_some_iff.1 hx).2]
      have e3 : (dwn (l.take k).reverse s).reverse = l.take k ++ [s] := by
        rw [e2, List.reverse_append]
        show (dwn (x :: (l.take (k - 1)).reverse) s).reverse = _
        unfold dwn
        rw [if_neg hlt]
        simp
      rw [e3]
      simp
theorem drop_pred {l : List Tx} {k : Nat} (h0 : 0 < k) {x : Tx} (hx : l[k - 1]? = some x) : l.drop (k - 1) = x :: l.drop k := by
  obtain ⟨h, rfl⟩ := List.getElem?_eq_some_iff.1 hx
  rw [List.drop_eq_getElem_cons h, show k - 1 + 1 = k by omega]
end Go.Proofs.YtkjdihikcgpababDoor
/-
  Policy: what Run tells; how it goes on. Pure.
-/
namespace Go.Proofs.YtkjdihikcgpababDoor
open Go.Lib
def stepsP : Po → List Ce → Option Po
  | p, [] => some p
  | p, c :: l => if (stepP p c l.isEmpty).2 = true then stepsP (stepP p c l.isEmpty).1 l else none
def runP (l : List Ce) (U : List Tx) (ex inh : Bool) : List Tx × Bool :=
  match l.getLast? with
  | none => ([], false)
  | some c => match stepsP (startP l.length ex inh) l with
    | none => ([], false)
    | some p => endP p c U
def PoOk (p : Po) (k : Nat) : Prop := p.S.length ≤ k ∧ (-9223372036854775808 ≤ p.e ∧ p.e ≤ 9223372036854775807) ∧ (-9223372036854775808 ≤ p.a ∧ p.a ≤ 9223372036854775807)
def CeOk (c : Ce) : Prop := c.P.length ≤ 400 ∧ (-9223372036854775808 ≤ c.r ∧ c.r ≤ 9223372036854775807) ∧ (-9223372036854775808 ≤ c.i ∧ c.i ≤ 9223372036854775807)
theorem heldS_len (S P : List Tx) (ok : Bool) : (heldS S P ok).length ≤ P.length + S.length := by
  have h1 := srt_le (adm S P ++ if decide (anyP ∈ P) && ok then S else [])
  have h2 := adm_len S P
  unfold heldS
  refine Nat.le_trans h1 ?_
  rw [List.length_append]
  split
  · omega
  · simp; omega
theorem less_in {n : Int} (h : -9223372036854775808 ≤ n ∧ n ≤ 9223372036854775807) : -9223372036854775808 ≤ less n ∧ less n ≤ 9223372036854775807 := by unfold less; split <;> omega
theorem bnd_in {n b : Int} (h : -9223372036854775808 ≤ n ∧ n ≤ 9223372036854775807) : -9223372036854775808 ≤ bnd n b ∧ bnd n b ≤ 9223372036854775807 := by unfold bnd; split <;> omega
theorem stepP_ok {p : Po} {c : Ce} {k : Nat} (last : Bool) (hp : PoOk p k) (hc : CeOk c) : PoOk (stepP p c last).1 (k + 400) := by
  have h1 := heldS_len p.S c.P (decide (0 < p.a) || (!last && c.own))
  obtain ⟨p1, p2, p3⟩ := hp
  obtain ⟨c1, _, _⟩ := hc
  unfold stepP
  simp only []
  split
  · exact ⟨by simp, by simp, by simp⟩
  · split
    · exact ⟨by simp only []; omega, p2, p3⟩
    · refine ⟨by simp only []; omega, bnd_in ?_, bnd_in ?_⟩
      · split
        · exact p2
        · exact less_in p2
      · split
        · exact p3
        · exact less_in p3
theorem startP_ok (n : Nat) (ex inh : Bool) : PoOk (startP n ex inh) 1 := by
  unfold startP
  refine ⟨by simp, ?_, ?_⟩
  · cases ex <;> simp <;> omega
  · cases inh <;> simp <;> omega
theorem steps_at {l : List Ce} {i : Nat} {c : Ce} (h : l[i]? = some c) (p : Po) : stepsP p (l.drop i) = if (stepP p c (decide (i + 1 = l.length))).2 = true then stepsP (stepP p c (decide (i + 1 = l.length))).1 (l.drop (i + 1)) else none := by
  obtain ⟨hl, rfl⟩ := List.getElem?_eq_some_iff.1 h
  rw [List.drop_eq_getElem_cons hl]
  have e : (l.drop (i + 1)).isEmpty = decide (i + 1 = l.length) := by
    by_cases h2 : i + 1 = l.length
    · rw [decide_eq_true h2, List.drop_of_length_le (by omega)]; rfl
    · rw [decide_eq_false h2]
      cases h3 : l.drop (i + 1) with
      | nil => have := congrArg List.length h3; rw [List.length_drop] at this; simp at this; omega
      | cons x r => rfl
  show (if (stepP p l[i] (l.drop (i + 1)).isEmpty).2 = true then stepsP (stepP p l[i] (l.drop (i + 1)).isEmpty).1 (l.drop (i + 1)) else none) = _
  rw [e]
theorem runP_at {l : List Ce} {m : Nat} {c : Ce} (hm : l.length = m + 1) (h : l[m]? = some c) (U : List Tx) (ex inh : Bool) : runP l U ex inh = match stepsP (startP (m + 1 : Nat) ex inh) l with | none => ([], false) | some p => endP p c U := by
  unfold runP
  rw [List.getLast?_eq_getElem?, hm, Nat.add_sub_cancel, h]
end Go.Proofs.YtkjdihikcgpababDoor
/-
  Policy: the order in which policies stand plays no part; who asks for more gets no less. Pure.
-/
namespace Go.Proofs.YtkjdihikcgpababDoor
open Go.Lib
theorem srt_ext {l m : List Tx} (h : ∀ x, x ∈ l ↔ x ∈ m) : srt l = srt m := srt_eq (srt_ss m) (fun x => by rw [mem_srt, h x])
theorem held_ext (S : List Tx) {P Q : List Tx} (ok : Bool) (h : ∀ x, x ∈ P ↔ x ∈ Q) : heldS S P ok = heldS S Q ok := by
  unfold heldS
  rw [decide_eq_decide.2 (h anyP)]
  refine srt_ext fun x => ?_
  rw [List.mem_append, List.mem_append, mem_adm, mem_adm, h x]
theorem grant_ext (S : List Tx) {U V : List Tx} (h : ∀ x, x ∈ U ↔ x ∈ V) : grant S U = grant S V := by
  have h0 : U = [] ↔ V = [] := by
    rw [List.eq_nil_iff_forall_not_mem, List.eq_nil_iff_forall_not_mem]
    exact ⟨fun k x hx => k x ((h x).2 hx), fun k x hx => k x ((h x).1 hx)⟩
  unfold grant
  by_cases hc : U = [] ∨ anyP ∈ U
  · rw [if_pos hc, if_pos (by rw [← h0, ← h anyP]; exact hc)]
  · rw [if_neg hc, if_neg (by rw [← h0, ← h anyP]; exact hc)]
    refine srt_ext fun x => ?_
    rw [mem_adm, mem_adm, h x]
/-- Two certificates that say the same policies. -/
def CeEq (c d : Ce) : Prop := (∀ x, x ∈ c.P ↔ x ∈ d.P) ∧ c.r = d.r ∧ c.i = d.i ∧ c.own = d.own
theorem step_ext (p : Po) {c d : Ce} (last : Bool) (h : CeEq c d) : stepP p c last = stepP p d last := by
  obtain ⟨h1, h2, h3, h4⟩ := h
  unfold stepP
  rw [h2, h3, h4, held_ext p.S _ h1]
theorem steps_ext : ∀ (l m : List Ce) (p : Po), l.length = m.length → (∀ (i : Nat) (c d : Ce), l[i]? = some c → m[i]? = some d → CeEq c d) → stepsP p l = stepsP p m
  | [], [], _, _, _ => rfl
  | [], d :: m, _, h, _ => by simp at h
  | c :: l, [], _, h, _ => by simp at h
  | c :: l, d :: m, p, hl, h => by
    have h0 := h 0 c d rfl rfl
    have he : l.isEmpty = m.isEmpty := by
      simp at hl
      cases l <;> cases m <;> simp at hl ⊢
    show (if (stepP p c l.isEmpty).2 = true then stepsP (stepP p c l.isEmpty).1 l else none) = if (stepP p d m.isEmpty).2 = true then stepsP (stepP p d m.isEmpty).1 m else none
    rw [he, step_ext p _ h0, steps_ext l m _ (by simpa using hl) (fun i c' d' hc hd => h (i + 1) c' d' (by simpa using hc) (by simpa using hd))]
theorem end_ext (p : Po) {c d : Ce} {U V : List Tx} (h : CeEq c d) (hU : ∀ x, x ∈ U ↔ x ∈ V) : endP p c U = endP p d V := by
  unfold endP
  rw [grant_ext p.S hU, h.2.1]
theorem run_ext (l m : List Ce) {U V : List Tx} (ex inh : Bool) (hl : l.length = m.length) (h : ∀ (i : Nat) (c d : Ce), l[i]? = some c → m[i]? = some d → CeEq c d) (hU : ∀ x, x ∈ U ↔ x ∈ V) : runP l U ex inh = runP m V ex inh := by
  unfold runP
  rw [List.getLast?_eq_getElem?, List.getLast?_eq_getElem?, hl]
  cases h1 : m[m.length - 1]? with
  | none =>
    have : l[m.length - 1]? = none := by
      rw [List.getElem?_eq_none_iff] at h1 ⊢
      omega
    rw [this]
  | some d =>
    obtain ⟨c, hc⟩ : ∃ c, l[m.length - 1]? = some c := ⟨_, List.getElem?_eq_getElem (by have := (List.getElem?_eq_some_iff.1 h1).1; omega)⟩
    rw [hc]
    simp only []
    rw [steps_ext l m _ hl h]
    cases stepsP (startP m.length ex inh) m with
    | none => rfl
    | some p => exact end_ext p (h _ c d hc h1) hU
/-- No less is left. -/
def PoLe (p q : Po) : Prop := (∀ x, x ∈ p.S → x ∈ q.S) ∧ p.e ≤ q.e ∧ p.a ≤ q.a
theorem less_le {a b : Int} (h : a ≤ b) : less a ≤ less b := by unfold less; split <;> split <;> omega
theorem bnd_le {a b : Int} (c : Int) (h : a ≤ b) : bnd a c ≤ bnd b c := by unfold bnd; split <;> split <;> omega
theorem adm_le {S T : List Tx} (P : List Tx) (h : ∀ x, x ∈ S → x ∈ T) (x : Tx) (hx : x ∈ adm S P) : x ∈ adm T P := by
  rw [mem_adm] at hx ⊢
  exact ⟨hx.1, hx.2.1, hx.2.2.elim (fun k => .inl (h _ k)) (fun k => .inr (h _ k))⟩
theorem held_le {S T : List Tx} (P : List Tx) {ok ok' : Bool} (h : ∀ x, x ∈ S → x ∈ T) (ho : ok = true → ok' = true) (x : Tx) (hx : x ∈ heldS S P ok) : x ∈ heldS T P ok' := by
  unfold heldS at hx ⊢
  rw [mem_srt, List.mem_append] at hx ⊢
  rcases hx with hx | hx
  · exact .inl (adm_le P h x hx)
  · right
    by_cases hc : (decide (anyP ∈ P) && ok) = true
    · rw [if_pos hc] at hx
      rw [Bool.and_eq_true] at hc
      rw [if_pos (by rw [hc.1, ho hc.2]; rfl)]
      exact h x hx
    · rw [if_neg hc] at hx
      cases hx
theorem nil_le {S T : List Tx} (h : ∀ x, x ∈ S → x ∈ T) (hT : T = []) : S = [] := by
  rw [List.eq_nil_iff_forall_not_mem]
  intro x hx
  have := h x hx
  rw [hT] at this
  cases this
theorem step_le {p q : Po} (c : Ce) (last : Bool) (h : PoLe p q) (hp : (stepP p c last).2 = true) : (stepP q c last).2 = true ∧ PoLe (stepP p c last).1 (stepP q c last).1 := by
  obtain ⟨h1, h2, h3⟩ := h
  have hh : ∀ x, x ∈ heldS p.S c.P (decide (0 < p.a) || (!last && c.own)) → x ∈ heldS q.S c.P (decide (0 < q.a) || (!last && c.own)) := held_le c.P h1 (fun k => by
    rw [Bool.or_eq_true] at k ⊢
    rcases k with k | k
    · left; rw [decide_eq_true_eq] at k ⊢; omega
    · exact .inr k)
  obtain ⟨s, hs⟩ : ∃ s, heldS p.S c.P (decide (0 < p.a) || (!last && c.own)) = s := ⟨_, rfl⟩
  obtain ⟨t, ht⟩ : ∃ t, heldS q.S c.P (decide (0 < q.a) || (!last && c.own)) = t := ⟨_, rfl⟩
  rw [hs, ht] at hh
  unfold stepP at hp ⊢
  simp only [hs, ht] at hp ⊢
  by_cases hz : s = [] ∧ p.e ≤ 0
  · rw [if_pos hz] at hp; cases hp
  · have hz2 : ¬ (t = [] ∧ q.e ≤ 0) := fun k => hz ⟨nil_le hh k.1, by omega⟩
    rw [if_neg hz, if_neg hz2]
    cases last with
    | true => exact ⟨rfl, hh, h2, h3⟩
    | false =>
      refine ⟨rfl, hh, bnd_le _ ?_, bnd_le _ ?_⟩
      · cases c.own
        · exact less_le h2
        · exact h2
      · cases c.own
        · exact less_le h3
        · exact h3
theorem steps_le : ∀ (l : List Ce) (p q p' : Po), PoLe p q → stepsP p l = some p' → ∃ q', stepsP q l = some q' ∧ PoLe p' q'
  | [], p, q, p', h, hp => ⟨q, rfl, by have : p = p' := Option.some.inj hp; subst this; exact h⟩
  | c :: l, p, q, p', h, hp => by
    have hp' : (if (stepP p c l.isEmpty).2 = true then stepsP (stepP p c l.isEmpty).1 l else none) = some p' := hp
    by_cases k : (stepP p c l.isEmpty).2 = true
    · rw [if_pos k] at hp'
      obtain ⟨k1, k2⟩ := step_le c l.isEmpty h k
      obtain ⟨q', e1, e2⟩ := steps_le l _ _ p' k2 hp'
      refine ⟨q', ?_, e2⟩
      show (if (stepP q c l.isEmpty).2 = true then stepsP (stepP q c l.isEmpty).1 l else none) = some q'
      rw [if_pos k1, e1]
    · rw [if_neg k] at hp'; cases hp'
/-- V asks for no less than U. -/
def AskLe (U V : List Tx) : Prop := V = [] ∨ (U ≠ [] ∧ ∀ x, x ∈ U → x ∈ V)
theorem grant_le {S T U V : List Tx} (h : ∀ x, x ∈ S → x ∈ T) (hU : AskLe U V) (hg : grant T V = []) : grant S U = [] := by
  unfold grant at hg ⊢
  have srt_nil : ∀ l : List Tx, srt l = [] ↔ l = [] := fun l => by
    rw [List.eq_nil_iff_forall_not_mem, List.eq_nil_iff_forall_not_mem]
    exact ⟨fun k x hx => k x ((mem_srt l x).2 hx), fun k x hx => k x ((mem_srt l x).1 hx)⟩
  by_cases hV : V = [] ∨ anyP ∈ V
  · rw [if_pos hV, srt_nil] at hg
    have hS := nil_le h hg
    subst hS
    split
    · exact (srt_nil []).2 rfl
    · rw [srt_nil, List.eq_nil_iff_forall_not_mem]
      intro x hx
      rw [mem_adm] at hx
      rcases hx.2.2 with k | k <;> cases k
  · rcases hU with hU | ⟨h0, hU⟩
    · exact absurd (.inl hU) hV
    · rw [if_neg hV, srt_nil] at hg
      have hn : ¬ (U = [] ∨ anyP ∈ U) := fun k => k.elim h0 (fun k => hV (.inr (hU _ k)))
      rw [if_neg hn, srt_nil, List.eq_nil_iff_forall_not_mem]
      intro x hx
      rw [mem_adm] at hx
      have : x ∈ adm T V := (mem_adm T V x).2 ⟨hU _ hx.1, hx.2.1, hx.2.2.elim (fun k => .inl (h _ k)) (fun k => .inr (h _ k))⟩
      rw [hg] at this
      cases this
theorem end_le {p q : Po} (c : Ce) {U V : List Tx} (h : PoLe p q) (hU : AskLe U V) (hp : (endP p c U).2 = true) : (endP q c V).2 = true := by
  unfold endP at hp ⊢
  simp only [] at hp ⊢
  by_cases hz : grant q.S V = [] ∧ (if c.r = 0 then (0 : Int) else less q.e) ≤ 0
  · exfalso
    have h1 := grant_le h.1 hU hz.1
    have h2 : (if c.r = 0 then (0 : Int) else less p.e) ≤ 0 := by
      have := less_le h.2.1
      have k := hz.2
      split
      · omega
      · rename_i hr; rw [if_neg hr] at k; omega
    rw [if_pos ⟨h1, h2⟩] at hp
    cases hp
  · rw [if_neg hz]
theorem run_le (l : List Ce) {U V : List Tx} {ex ex' inh inh' : Bool} (he : ex' = true → ex = true) (hi : inh' = true → inh = true) (hU : AskLe U V) (hp : (runP l U ex inh).2 = true) : (runP l V ex' inh').2 = true := by
  unfold runP at hp ⊢
  cases hl : l.getLast? with
  | none => rw [hl] at hp; cases hp
  | some c =>
    rw [hl] at hp
    simp only [] at hp ⊢
    have h0 : PoLe (startP l.length ex inh) (startP l.length ex' inh') := by
      unfold startP
      refine ⟨fun x hx => hx, ?_, ?_⟩
      · cases ex <;> cases ex' <;> simp at he ⊢ <;> omega
      · cases inh <;> cases inh' <;> simp at hi ⊢ <;> omega
    cases hs : stepsP (startP l.length ex inh) l with
    | none => rw [hs] at hp; cases hp
    | some p =>
      rw [hs] at hp
      obtain ⟨q, e1, e2⟩ := steps_le l _ _ p h0 hs
      rw [e1]
      exact end_le c e2 hU hp
theorem end_no (p : Po) (c : Ce) (U : List Tx) (h : (endP p c U).2 = false) : (endP p c U).1 = [] := by
  have e : endP p c U = if grant p.S U = [] ∧ (if c.r = 0 then (0 : Int) else less p.e) ≤ 0 then ([], false) else (grant p.S U, true) := rfl
  rw [e] at h ⊢
  by_cases hz : grant p.S U = [] ∧ (if c.r = 0 then (0 : Int) else less p.e) ≤ 0
  · rw [if_pos hz]
  · rw [if_neg hz] at h; cases h
theorem run_no (l : List Ce) (U : List Tx) (ex inh : Bool) (h : (runP l U ex inh).2 = false) : (runP l U ex inh).1 = [] := by
  unfold runP at h ⊢
  cases hl : l.getLast? with
  | none => rfl
  | some c =>
    rw [hl] at h
    simp only [] at h ⊢
    cases hs : stepsP (startP l.length ex inh) l with
    | none => rfl
    | some p =>
      rw [hs] at h
      exact end_no p c U h
theorem run_in (l : List Ce) (U : List Tx) (ex inh : Bool) (h0 : U ≠ []) (h1 : anyP ∉ U) : ∀ x ∈ (runP l U ex inh).1, x ∈ U := by
  intro x hx
  unfold runP at hx
  cases hl : l.getLast? with
  | none => rw [hl] at hx; cases hx
  | some c =>
    rw [hl] at hx
    simp only [] at hx
    cases hs : stepsP (startP l.length ex inh) l with
    | none => rw [hs] at hx; cases hx
    | some p =>
      rw [hs] at hx
      simp only [] at hx
      have e : endP p c U = if grant p.S U = [] ∧ (if c.r = 0 then (0 : Int) else less p.e) ≤ 0 then ([], false) else (grant p.S U, true) := rfl
      rw [e] at hx
      by_cases hz : grant p.S U = [] ∧ (if c.r = 0 then (0 : Int) else less p.e) ≤ 0
      · rw [if_pos hz] at hx; cases hx
      · rw [if_neg hz] at hx
        have hg : grant p.S U = srt (adm p.S U) := if_neg (fun k => Or.elim k h0 h1)
        have hx2 : x ∈ grant p.S U := hx
        rw [hg, mem_srt, mem_adm] at hx2
        exact hx2.1
end Go.Proofs.YtkjdihikcgpababDoor
/-
  Policy: what Run says of certificates that all say nothing, or any policy. Pure.
-/
namespace Go.Proofs.YtkjdihikcgpababDoor
open Go.Lib
def noCe : Ce := ⟨[], -1, -1, false⟩
def anyCe : Ce := ⟨[anyP], -1, -1, false⟩
def wantP (U : List Tx) : List Tx := if U = [] ∨ anyP ∈ U then [anyP] else U.foldl put []
theorem plainA : ∀ k, 1 ≤ k → k ≤ 8 → runP (List.replicate k noCe) [] false false = ([], true) := fun k h1 h2 => by
  have h : ∀ k : Fin 9, 1 ≤ k.val → runP (List.replicate k.val noCe) [] false false = ([], true) := by decide +kernel
  exact h ⟨k, by omega⟩ h1
theorem srt_any : srt [anyP] = [anyP] := by decide +kernel
theorem heldAny (ok : Bool) (h : ok = true) : heldS [anyP] [anyP] ok = [anyP] := by
  subst h
  decide +kernel
theorem step_any (a : Int) (h : 0 < a) (last : Bool) : stepP ⟨[anyP], 0, a⟩ anyCe last = (if last = true then (⟨[anyP], 0, a⟩, true) else (⟨[anyP], 0, a - 1⟩, true)) := by
  unfold stepP
  simp only [anyCe, Bool.and_false, Bool.or_false, decide_eq_true h]
  rw [heldAny _ rfl]
  have e1 : ¬ ([anyP] = ([] : List Tx) ∧ (0 : Int) ≤ 0) := fun e => by cases e.1
  simp only [e1, if_false]
  cases last
  · simp [less, bnd, h]
  · simp
theorem steps_any : ∀ (k : Nat) (a : Int), (k : Int) < a → stepsP ⟨[anyP], 0, a⟩ (List.replicate (k + 1) anyCe) = some ⟨[anyP], 0, a - k⟩
  | 0, a, h => by
    show (if (stepP ⟨[anyP], 0, a⟩ anyCe true).2 = true then stepsP (stepP ⟨[anyP], 0, a⟩ anyCe true).1 [] else none) = _
    rw [step_any a (by omega) true]
    simp [stepsP]
  | k + 1, a, h => by
    show (if (stepP ⟨[anyP], 0, a⟩ anyCe false).2 = true then stepsP (stepP ⟨[anyP], 0, a⟩ anyCe false).1 (List.replicate (k + 1) anyCe) else none) = _
    rw [step_any a (by omega) false]
    simp only [Bool.false_eq_true, if_false, if_true]
    rw [steps_any k (a - 1) (by omega)]
    congr 2
    omega
theorem adm_any (U : List Tx) (h : anyP ∉ U) : adm [anyP] U = U := by
  unfold adm
  rw [List.filter_eq_self]
  intro x hx
  have : x ≠ anyP := fun e => h (e ▸ hx)
  simp [this]
theorem grant_any (U : List Tx) : grant [anyP] U = wantP U := by
  unfold grant wantP
  by_cases h : U = [] ∨ anyP ∈ U
  · rw [if_pos h, if_pos h, srt_any]
  · rw [if_neg h, if_neg h, adm_any U (fun e => h (.inr e))]
    exact srt_eq (fput_ss U [] nil_ss) (fun x => by rw [mem_fput]; simp)
theorem want_ne (U : List Tx) : wantP U ≠ [] := by
  unfold wantP
  split
  · simp
  · rename_i h
    intro e
    have hU : U ≠ [] := fun e => h (.inl e)
    obtain ⟨x, hx⟩ := List.exists_mem_of_ne_nil U hU
    have := (mem_fput U [] x).2 (.inl hx)
    rw [e] at this
    cases this
theorem plainB (k : Nat) (h1 : 1 ≤ k) (h2 : k ≤ 8) (U : List Tx) : runP (List.replicate k anyCe) U true false = (wantP U, true) := by
  obtain ⟨j, rfl⟩ : ∃ j, k = j + 1 := ⟨k - 1, by omega⟩
  unfold runP
  rw [List.getLast?_replicate, if_neg (by omega), List.length_replicate]
  simp only []
  have hs : startP (((j + 1 : Nat)) : Int) true false = ⟨[anyP], 0, (j : Int) + 2⟩ := by
    unfold startP
    simp
    omega
  rw [hs, steps_any j _ (by omega)]
  show endP _ anyCe U = _
  unfold endP
  simp only []
  rw [grant_any]
  simp [want_ne]
end Go.Proofs.YtkjdihikcgpababDoor
