/-
  Der: the numbers between the dots of a text.
-/
import Derived.Laws.RangeAny
import Derived.Lib.Strings
import Derived.Test.YtillkhjihggcjaaGreatDoorK32
namespace Go.Proofs.YtillkhjihggcjaaGreatDoor
open Go.RowKit
/-- Behind i bytes: the numbers that have ended, the next one's value and how many digits it has; or nothing, where it is wrong. -/
def ast (Y : List Int) : Nat → Option (List Nat × Nat × Nat)
  | 0 => some ([], 0, 0)
  | i + 1 => (ast Y i).bind fun q =>
    if Y.getD i 0 = 46 then (if 0 < q.2.2 then some (q.1 ++ [q.2.1], 0, 0) else none)
    else if Y.getD i 0 < 48 ∨ 57 < Y.getD i 0 ∨ (q.2.1 = 0 ∧ 0 < q.2.2) then none
    else some (q.1, 10 * q.2.1 + (Y.getD i 0 - 48).toNat, q.2.2 + 1)
theorem ast_none {Y : List Int} {i : Nat} (h : ast Y i = none) : ∀ d, ast Y (i + d) = none
  | 0 => h
  | d + 1 => by
    show (ast Y (i + d)).bind _ = none
    rw [ast_none h d]; rfl
theorem ast_step {Y : List Int} {i : Nat} {A : List Nat} {v k : Nat} {x : Int} (h : ast Y i = some (A, v, k)) (hx : Y.getD i 0 = x) :
    ast Y (i + 1) = if x = 46 then (if 0 < k then some (A ++ [v], 0, 0) else none) else if x < 48 ∨ 57 < x ∨ (v = 0 ∧ 0 < k) then none else some (A, 10 * v + (x - 48).toNat, k + 1) := by
  show (ast Y i).bind _ = _
  rw [h, hx]; rfl
def arcsP (Y : List Int) : Option (List Nat) := (ast Y Y.length).bind fun q => if 0 < q.2.2 then some (q.1 ++ [q.2.1]) else none
theorem arcsP_none {Y : List Int} {i : Nat} (hi : i ≤ Y.length) (h : ast Y i = none) : arcsP Y = none := by
  unfold arcsP
  have := ast_none h (Y.length - i)
  rw [show i + (Y.length - i) = Y.length by omega] at this
  rw [this]; rfl
theorem ast_len (Y : List Int) : ∀ i A v k, ast Y i = some (A, v, k) → A.length + k ≤ i
  | 0, A, v, k, h => by cases h; simp
  | i + 1, A, v, k, h => by
    cases hq : ast Y i with
    | none => rw [show ast Y (i + 1) = none from ast_none hq 1] at h; cases h
    | some q =>
      obtain ⟨A', v', k'⟩ := q
      have := ast_len Y i A' v' k' hq
      rw [ast_step hq rfl] at h
      split at h
      · split at h
        · cases h; simp; omega
        · cases h
      · split at h
        · cases h
        · cases h; omega
def WrAns (Y : List Int) (B : Nat) (w : World) (e : Ending) : Prop :=
  (∃ A r, arcsP Y = some A ∧ e = .returned (.tuple #[r, .bool true]) ∧ Row .u64 136 B w r (capL 2147483648 A)) ∨ (arcsP Y = none ∧ ∃ r, e = .returned (.tuple #[r, .bool false]))
def ItS (g : Nat) (X : List Int) (W : World) (pos : Nat) : Prop := W.heap[g]? = some (.stringIter (strOfNums X) pos)
theorem ItS.pos {g : Nat} {X : List Int} {W : World} {pos : Nat} (h : ItS g X W pos) : W.iterPos g = pos := by
  unfold World.iterPos; rw [h]
theorem ItS.lt {g : Nat} {X : List Int} {W : World} {pos : Nat} (h : ItS g X W pos) : g < W.heap.size := (Array.getElem?_eq_some_iff.1 h).1
theorem ItS.below {g : Nat} {X : List Int} {W W' : World} {pos : Nat} (h : ItS g X W pos) (hb : Below (g + 1) W W') : ItS g X W' pos := by
  unfold ItS; rw [hb.block _ (by omega)]; exact h
theorem row_iterS {k : IntKind} {e : TypeId} {g : Nat} {W : World} {v : Value} {xs : List Int} (s : ByteArray) (pos : Nat) (h : Row k e (g + 1) W v xs) : Row k e (g + 1) (W.iterAt g s pos) v xs := by
  rcases h with h | ⟨b, S, rfl, h1, hA, h2⟩
  · exact .inl h
  · exact .inr ⟨b, S, rfl, h1, by unfold Arr; rw [Lib.iterAt_other W _ _ s pos (by omega)]; exact hA, h2⟩
theorem st_get (X : List Int) (hU : U8s X) (i : Nat) (hi : i < X.length) (h : i < (strOfNums X).size) : (((strOfNums X)[i]'h).toNat : Int) = X.getD i 0 := by
  have e : (strOfNums X)[i]'h = UInt8.ofNat (X[i]).toNat := by
    show (strOfNums X).data[i] = _
    simp [strOfNums]
  have hu := hU _ (List.getElem_mem hi)
  unfold U8 at hu
  rw [e, List.getD_eq_getElem?_getD, List.getElem?_eq_getElem hi]
  simp
  omega
/-- What the next character is: the byte itself, or, from 128 on, something above. -/
theorem next_char {P : Program} {wr : World} {g i : Nat} {Y : List Int} (hU : U8s Y) (hI : ItS g Y wr i) (hi : i < Y.length) :
    ∃ (y : Int) (p : Nat), Sem.run P (Instr.next (.pointer (some ⟨g, 0, none⟩)) true 0) wr = .ok (.tuple #[.bool true, .int .i64 i, .int .i32 y]) (wr.iterAt g (strOfNums Y) p) ∧ ((Y.getD i 0 < 128 ∧ y = Y.getD i 0 ∧ p = i + 1) ∨ (128 ≤ Y.getD i 0 ∧ 57 < y)) := by
  have hiS : i < (strOfNums Y).size := by rw [st_size]; omega
  have hg := st_get Y hU i hi hiS
  by_cases h : Y.getD i 0 < 128
  · refine ⟨Y.getD i 0, i + 1, ?_, .inl ⟨h, rfl, rfl⟩⟩
    rw [Lib.run_next_ascii_at wr g (strOfNums Y) i 0 hI hiS (by omega), hg]
  · refine ⟨_, _, Lib.run_next_any_at wr g (strOfNums Y) i 0 hI hiS, .inr ⟨by omega, ?_⟩⟩
    have := (decode_high _ _ hiS (by omega)).1
    omega
end Go.Proofs.YtillkhjihggcjaaGreatDoor
/-
  Der: any text as an object identifier's bytes.
-/
namespace Go.Proofs.YtillkhjihggcjaaGreatDoor
open Go.RowKit
/-- How many groups of seven bits a number has, less one. -/
def kOfF : Nat → Nat → Nat
  | 0, _ => 0
  | f + 1, n => if n < 128 then 0 else kOfF f (n / 128) + 1
theorem kOfF_fuel : ∀ f g n, n ≤ f → n ≤ g → kOfF f n = kOfF g n
  | 0, 0, _, _, _ => rfl
  | 0, g + 1, n, h, _ => by rw [kOfF, kOfF, if_pos (by omega)]
  | f + 1, 0, n, _, h => by rw [kOfF, kOfF, if_pos (by omega)]
  | f + 1, g + 1, n, h, h' => by
    rw [kOfF, kOfF]
    by_cases h1 : n < 128
    · rw [if_pos h1, if_pos h1]
    · rw [if_neg h1, if_neg h1, kOfF_fuel f g (n / 128) (by omega) (by omega)]
def kOf (n : Nat) : Nat := kOfF n n
theorem kOf_lo {n : Nat} (h : n < 128) : kOf n = 0 := by
  unfold kOf
  cases n with
  | zero => rfl
  | succ m => rw [kOfF, if_pos h]
theorem kOf_hi {n : Nat} (h : ¬ n < 128) : kOf n = kOf (n / 128) + 1 := by
  unfold kOf
  cases n with
  | zero => exact absurd (by decide) h
  | succ m => rw [kOfF, if_neg h, kOfF_fuel m ((m + 1) / 128) _ (by omega) (Nat.le_refl _)]
theorem div_pow1 (n j : Nat) : n / 128 ^ (j + 1) = n / 128 / 128 ^ j := by rw [Nat.pow_succ, Nat.mul_comm, Nat.div_div_eq_div_mul]
theorem kOf_spec (n : Nat) : n / 128 ^ kOf n < 128 ∧ ∀ j, j < kOf n → 128 ≤ n / 128 ^ j := by
  induction n using Nat.strongRecOn with
  | _ n ih =>
    by_cases h : n < 128
    · rw [kOf_lo h]; exact ⟨by simpa using h, fun j hj => by omega⟩
    · have := ih (n / 128) (by omega)
      rw [kOf_hi h]
      refine ⟨by rw [div_pow1]; exact this.1, fun j hj => ?_⟩
      cases j with
      | zero => simp; omega
      | succ j => rw [div_pow1]; exact this.2 j (by omega)
theorem kOf_le (m : Nat) : ∀ n, n < 128 ^ (m + 1) → kOf n ≤ m := by
  induction m with
  | zero => intro n h; rw [kOf_lo (by simpa using h)]; omega
  | succ m ih =>
    intro n h
    by_cases h1 : n < 128
    · rw [kOf_lo h1]; omega
    · rw [kOf_hi h1]
      have : n / 128 < 128 ^ (m + 1) := by rw [Nat.div_lt_iff_lt_mul (by decide)]; rw [Nat.pow_succ] at h; exact h
      have := ih _ this; omega
def sevL (n : Nat) : List Int := sev (kOf n) n
def hiGF : Nat → Nat → List Int
  | 0, _ => []
  | f + 1, v => if v = 0 then [] else hiGF f (v / 128) ++ [((v % 128 + 128 : Nat) : Int)]
theorem hiGF_fuel : ∀ f g n, n ≤ f → n ≤ g → hiGF f n = hiGF g n
  | 0, 0, _, _, _ => rfl
  | 0, g + 1, n, h, _ => by rw [hiGF, hiGF, if_pos (by omega)]
  | f + 1, 0, n, _, h => by rw [hiGF, hiGF, if_pos (by omega)]
  | f + 1, g + 1, n, h, h' => by
    rw [hiGF, hiGF]
    by_cases h1 : n = 0
    · rw [if_pos h1, if_pos h1]
    · rw [if_neg h1, if_neg h1, hiGF_fuel f g (n / 128) (by omega) (by omega)]
def hiG (v : Nat) : List Int := hiGF v v
theorem hiG_0 : hiG 0 = [] := rfl
theorem hiG_next {v : Nat} (h : v ≠ 0) : hiG v = hiG (v / 128) ++ [((v % 128 + 128 : Nat) : Int)] := by
  unfold hiG
  cases v with
  | zero => exact absurd rfl h
  | succ m => rw [hiGF, if_neg h, hiGF_fuel m ((m + 1) / 128) _ (by omega) (Nat.le_refl _)]
theorem tp_shift (n k : Nat) : ∀ i, i ≤ k → tp n (k + 1) i = tp (n / 128) k i
  | 0, _ => rfl
  | i + 1, hi => by
    show tp n (k + 1) i ++ [gr n (k + 1 - i)] = tp (n / 128) k i ++ [gr (n / 128) (k - i)]
    rw [tp_shift n k i (by omega), show k + 1 - i = (k - i) + 1 by omega]
    congr 2
    unfold gr
    rw [div_pow1]
theorem sevL_hi (n : Nat) : sevL n = hiG (n / 128) ++ [((n % 128 : Nat) : Int)] := by
  have key : ∀ n, tp n (kOf n) (kOf n) = hiG (n / 128) := by
    intro n
    induction n using Nat.strongRecOn with
    | _ n ih =>
      by_cases h : n < 128
      · rw [kOf_lo h, show n / 128 = 0 by omega, hiG_0]; rfl
      · have h1 := ih (n / 128) (by omega)
        rw [kOf_hi h, hiG_next (by omega), ← h1]
        show tp n (kOf (n / 128) + 1) (kOf (n / 128)) ++ [gr n (kOf (n / 128) + 1 - kOf (n / 128))] = _
        rw [tp_shift n _ _ (Nat.le_refl _), show kOf (n / 128) + 1 - kOf (n / 128) = 0 + 1 by omega]
        unfold gr
        simp
  unfold sevL sev
  rw [key]
theorem sevL_len (n : Nat) (h : n ≤ 4294967295) : (sevL n).length ≤ 5 := by
  unfold sevL
  have := kOf_le 4 n (by omega)
  unfold sev
  rw [List.length_append, tp_len]; simp; omega
def putOk (A : List Nat) : Bool := decide (2 ≤ A.length ∧ A.getD 0 0 ≤ 2 ∧ (A.getD 0 0 = 2 ∨ A.getD 1 0 < 40))
def putLong (A : List Nat) : Bool := A.any fun v => decide (2147483647 < v)
def putB (A : List Nat) : List Int := sevL (40 * A.getD 0 0 + A.getD 1 0) ++ (A.drop 2).flatMap sevL
/-- What PutOid tells of a text. -/
def PutR (Y b : List Int) (er : Int) : Prop :=
  ((∀ A, arcsP Y = some A → putOk A = false) ∧ b = [] ∧ er = 6) ∨ (∃ A, arcsP Y = some A ∧ putOk A = true ∧ putLong A = true ∧ b = [] ∧ er = 3) ∨ (∃ A, arcsP Y = some A ∧ putOk A = true ∧ putLong A = false ∧ b = putB A ∧ er = 0)
theorem PutR.uniq {Y b b' : List Int} {e e' : Int} (h : PutR Y b e) (h' : PutR Y b' e') : b = b' ∧ e = e' := by
  rcases h with ⟨h1, rfl, rfl⟩ | ⟨A, h1, h2, h3, rfl, rfl⟩ | ⟨A, h1, h2, h3, rfl, rfl⟩ <;> rcases h' with ⟨g1, rfl, rfl⟩ | ⟨A', g1, g2, g3, rfl, rfl⟩ | ⟨A', g1, g2, g3, rfl, rfl⟩
  · exact ⟨rfl, rfl⟩
  · rw [h1 A' g1] at g2; cases g2
  · rw [h1 A' g1] at g2; cases g2
  · rw [g1 A h1] at h2; cases h2
  · exact ⟨rfl, rfl⟩
  · rw [h1] at g1; cases g1; rw [h3] at g3; cases g3
  · rw [g1 A h1] at h2; cases h2
  · rw [h1] at g1; cases g1; rw [h3] at g3; cases g3
  · rw [h1] at g1; cases g1; exact ⟨rfl, rfl⟩
theorem arcsP_len {Y : List Int} {A : List Nat} (h : arcsP Y = some A) : A.length ≤ Y.length + 1 := by
  unfold arcsP at h
  cases hq : ast Y Y.length with
  | none => rw [hq] at h; cases h
  | some q =>
    obtain ⟨l, v, k⟩ := q
    have := ast_len Y _ l v k hq
    rw [hq] at h
    simp only [Option.bind_some] at h
    split at h
    · cases h; simp; omega
    · cases h
theorem capL_get (c : Nat) (A : List Nat) (i : Nat) : (capL c A).getD i 0 = if i < A.length then capN c (A.getD i 0) else 0 := by
  unfold capL
  by_cases h : i < A.length
  · simp [List.getD, h]
  · simp [List.getD, h]
theorem flat_snoc (T : List Nat) (i : Nat) (hi : i < T.length) : (T.take (i + 1)).flatMap sevL = (T.take i).flatMap sevL ++ sevL (T.getD i 0) := by
  rw [List.take_succ_eq_append_getElem hi, List.flatMap_append, List.getD_eq_getElem?_getD, List.getElem?_eq_getElem hi]
  simp
theorem flat_len : ∀ T : List Nat, (∀ v ∈ T, v ≤ 4294967295) → (T.flatMap sevL).length ≤ 5 * T.length
  | [], _ => by simp
  | v :: T, h => by
    have h1 := flat_len T (fun x hx => h x (by simp [hx]))
    have h2 := sevL_len v (h v (by simp))
    rw [List.flatMap_cons, List.length_append, List.length_cons]; omega
end Go.Proofs.YtillkhjihggcjaaGreatDoor
/-
  Der: PutOid of any text.
-/
namespace Go.Proofs.YtillkhjihggcjaaGreatDoor
open Go.RowKit
end Go.Proofs.YtillkhjihggcjaaGreatDoor
/-
  Der: the reference's numbers of a text.
-/
namespace Go.Proofs.YtillkhjihggcjaaGreatDoor
open Go.RowKit
theorem Tryz.undInt : Tryz.prog.underlying 161 = some (.slice 3) := by kernel_rfl
theorem Tryz.infoInt : (Tryz.prog.info? 3).map (fun i => (i.zero, i.size, i.bytes)) = some (some (.int .i64 0), 1, 8) := by kernel_rfl
/-- The value of k digits from place f on. -/
def dv (Y : List Int) (f : Nat) : Nat → Nat
  | 0 => 0
  | k + 1 => 10 * dv Y f k + (Y.getD (f + k) 0 - 48).toNat
def Digs (Y : List Int) (f i : Nat) : Prop := ∀ j, f ≤ j → j < i → 48 ≤ Y.getD j 0 ∧ Y.getD j 0 ≤ 57
/-- The reference stands at i; the number that it reads begins at f. -/
def Good (Y : List Int) (f i : Nat) (A : List Nat) : Prop := f ≤ i ∧ Digs Y f i ∧ ast Y i = some (A, dv Y f (i - f), i - f)
def Doom (Y : List Int) (f i : Nat) : Prop := f + 1 < i ∧ Digs Y f i ∧ Y.getD f 0 = 48 ∧ ast Y i = none
theorem digs_snoc {Y : List Int} {f i : Nat} {x : Int} (h : Digs Y f i) (hx : Y.getD i 0 = x) (h0 : 48 ≤ x) (h1 : x ≤ 57) : Digs Y f (i + 1) := by
  intro j hf hj
  by_cases hji : j = i
  · subst hji; rw [hx]; exact ⟨h0, h1⟩
  · exact h j hf (by omega)
/-- A number that has begun with 0 and is 0 has that digit alone. -/
theorem dv_zero {Y : List Int} {f i : Nat} {A : List Nat} (hg : Good Y f i A) (hk : f < i) (hv : dv Y f (i - f) = 0) : i = f + 1 ∧ Y.getD f 0 = 48 := by
  obtain ⟨hfi, hd, ha⟩ := hg
  obtain ⟨m, hm⟩ : ∃ m, i = f + m + 1 := ⟨i - f - 1, by omega⟩
  subst hm
  have e : f + m + 1 - f = m + 1 := by omega
  rw [e] at hv ha
  have hv' : 10 * dv Y f m + (Y.getD (f + m) 0 - 48).toNat = 0 := hv
  by_cases hm0 : m = 0
  · subst hm0
    have := hd f (Nat.le_refl _) (by omega)
    simp only [Nat.add_zero] at hv'
    exact ⟨by omega, by omega⟩
  · exfalso
    cases hq : ast Y (f + m) with
    | none =>
      have := ast_none hq 1
      rw [ha] at this; cases this
    | some q =>
      obtain ⟨A', v', k'⟩ := q
      have hs := ast_step hq rfl
      have hdx := hd (f + m) (by omega) (by omega)
      rw [ha] at hs
      rw [if_neg (by omega)] at hs
      split at hs
      · cases hs
      · rename_i hn
        simp only [Option.some.injEq, Prod.mk.injEq] at hs
        obtain ⟨_, h1, h2⟩ := hs
        have h3 : v' ≠ 0 := by intro h; exact hn (.inr (.inr ⟨h, by omega⟩))
        rw [show dv Y f (m + 1) = 10 * dv Y f m + (Y.getD (f + m) 0 - 48).toNat from rfl] at h1
        omega
/-- A digit more. -/
theorem good_digit {Y : List Int} {f i : Nat} {A : List Nat} {x : Int} (hg : Good Y f i A) (hx : Y.getD i 0 = x) (h0 : 48 ≤ x) (h1 : x ≤ 57) : Good Y f (i + 1) A ∨ Doom Y f (i + 1) := by
  obtain ⟨hfi, hd, ha⟩ := hg
  have hs := ast_step ha hx
  rw [if_neg (by omega)] at hs
  by_cases hz : dv Y f (i - f) = 0 ∧ 0 < i - f
  · right
    have hz2 := dv_zero ⟨hfi, hd, ha⟩ (by omega) hz.1
    exact ⟨by omega, digs_snoc hd hx h0 h1, hz2.2, by rw [hs, if_pos (by omega)]⟩
  · left
    refine ⟨by omega, digs_snoc hd hx h0 h1, ?_⟩
    rw [hs, if_neg (by omega), show i + 1 - f = (i - f) + 1 by omega]
    show _ = some (A, 10 * dv Y f (i - f) + (Y.getD (f + (i - f)) 0 - 48).toNat, _)
    rw [show f + (i - f) = i by omega, hx]
theorem doom_digit {Y : List Int} {f i : Nat} {x : Int} (hg : Doom Y f i) (hx : Y.getD i 0 = x) (h0 : 48 ≤ x) (h1 : x ≤ 57) : Doom Y f (i + 1) := by
  obtain ⟨a, b, c, d⟩ := hg
  exact ⟨by omega, digs_snoc b hx h0 h1, c, ast_none d 1⟩
theorem good_prev {Y : List Int} {f i : Nat} {A : List Nat} (hg : Good Y f (i + 1) A) (hf : f ≤ i) : Good Y f i A ∧ ¬ (dv Y f (i - f) = 0 ∧ 0 < i - f) := by
  obtain ⟨_, hd, ha⟩ := hg
  rw [show i + 1 - f = (i - f) + 1 by omega] at ha
  cases hq : ast Y i with
  | none => rw [show ast Y (i + 1) = none from ast_none hq 1] at ha; cases ha
  | some q =>
    obtain ⟨A', v', k'⟩ := q
    have hs := ast_step hq rfl
    have hdx := hd i hf (by omega)
    rw [ha, if_neg (by omega)] at hs
    split at hs
    · cases hs
    · rename_i hn
      simp only [Option.some.injEq, Prod.mk.injEq] at hs
      obtain ⟨h0, h1, h2⟩ := hs
      rw [show dv Y f (i - f + 1) = 10 * dv Y f (i - f) + (Y.getD (f + (i - f)) 0 - 48).toNat from rfl, show f + (i - f) = i by omega] at h1
      have hv : v' = dv Y f (i - f) := by omega
      have hk : k' = i - f := by omega
      subst hv
      subst hk
      subst h0
      exact ⟨⟨hf, fun j h3 h4 => hd j h3 (by omega), hq⟩, fun h => hn (.inr (.inr h))⟩
theorem good_lead {Y : List Int} {f : Nat} {A : List Nat} : ∀ d, Good Y f (f + 2 + d) A → Y.getD f 0 ≠ 48
  | 0, hg => by
    have h1 := (good_prev (i := f + 1) hg (by omega)).2
    intro h
    refine h1 ⟨?_, by omega⟩
    rw [show f + 1 - f = 0 + 1 by omega]
    show 10 * 0 + (Y.getD (f + 0) 0 - 48).toNat = 0
    rw [Nat.add_zero, h]; rfl
  | d + 1, hg => good_lead d (good_prev (i := f + 2 + d) hg (by omega)).1
end Go.Proofs.YtillkhjihggcjaaGreatDoor
/-
  Der: the reference's arcs.
-/
namespace Go.Proofs.YtillkhjihggcjaaGreatDoor
open Go.RowKit
def RArAns (Y : List Int) (B : Nat) (w : World) (e : Ending) : Prop :=
  (∃ A r, arcsP Y = some A ∧ e = .returned (.tuple #[r, .bool (putOk A)]) ∧ Row .i64 3 B w r (capL 1099511627776 A)) ∨ (arcsP Y = none ∧ e = .returned (.tuple #[.slice none 0 0, .bool false]))
set_option maxRecDepth 20000 in
set_option maxHeartbeats 8000000 in
theorem Rarcs_any {w : World} (Y : List Int) (hU : U8s Y) (hl : Y.length ≤ 2000) :
    Calls Tryz.prog 92 #[.string (strOfNums Y)] w fun e w' => RArAns Y w.heap.size w' e ∧ Below w.heap.size w w' := by
  obtain ⟨S, hS⟩ : ∃ S, strOfNums Y = S := ⟨_, rfl⟩
  obtain ⟨n, hn⟩ : ∃ n, Y.length = n := ⟨_, rfl⟩
  have hz : S.size = n := by rw [← hS, st_size]; exact hn
  have hget : ∀ k, k < n → ∀ hh : k < S.size, ((S[k]'hh).toNat : Int) = Y.getD k 0 := by
    intro k hk hh
    have := st_get Y hU k (by omega) (by rw [hS]; exact hh)
    simpa only [hS] using this
  have HX : Hid (U8s Y ∧ Y.length = n ∧ strOfNums Y = S ∧ S.size = n ∧ ∀ k, k < n → ∀ hh : k < S.size, ((S[k]'hh).toNat : Int) = Y.getD k 0) := ⟨hU, hn, hS, hz, hget⟩
  rw [hS]
  have hzI : (S.size : Int) = (n : Int) := by omega
  have hnI : (n : Int) ≤ 2000 := by omega
  clear hU hS hz hget
  go_enter Tryz.func92, Tryz.ntmps92
  go_wp2_with fail
  go_loopw [4, 5, 6] (fun lv fv iv wr => ∃ (i f : Nat) (l0 : Value) (A : List Nat), l0 = lv ∧ fv = .int .i64 f ∧ iv = .int .i64 i ∧ f ≤ n + 1 ∧ A.length ≤ i ∧ ((i ≤ n ∧ (Good Y f i A ∨ Doom Y f i)) ∨ (i = n + 1 ∧ arcsP Y = some A)) ∧ Row .i64 3 w.heap.size wr l0 (capL 1099511627776 A) ∧ Below w.heap.size w wr) (fun _ _ iv _ => n + 1 - (intOf iv).toNat)
  case atStart => exact ⟨0, 0, _, [], rfl, rfl, rfl, by omega, by simp, .inl ⟨by omega, .inl ⟨by omega, fun j h1 h2 => by omega, rfl⟩⟩, Row.nil _ _ _ _, Below.refl _ _⟩
  case round =>
    obtain ⟨i, f, l0, A, rfl, rfl, rfl, hf, hAi, hst, hr, hb⟩ := hrel
    have H1 : Hid (Row .i64 3 w.heap.size wr l0 (capL 1099511627776 A) ∧ Below w.heap.size w wr ∧ A.length ≤ i) := ⟨hr, hb, hAi⟩
    clear hr hb
    have no : Hid (arcsP Y = none → ∀ (W : World) (e : Ending), Below w.heap.size w W → e = .returned (.tuple #[.slice none 0 0, .bool false]) → RArAns Y w.heap.size W e ∧ Below w.heap.size w W) := fun h W e hW he => ⟨.inr ⟨h, he⟩, hW⟩
    rcases hst with ⟨hin, hst⟩ | ⟨hin, hP⟩
    · have l1 : (i : Int) ≤ (n : Int) := by omega
      have hfi : f ≤ i := by rcases hst with h | h; exact h.1; have := h.1; omega
      have HST : Hid (Good Y f i A ∨ Doom Y f i) := hst
      clear hst
      by_cases hmid : i < n ∧ Y.getD i 0 ≠ 46
      · obtain ⟨hlt, hx46⟩ := hmid
        have l2 : (i : Int) < (n : Int) := by omega
        obtain ⟨x, hx⟩ : ∃ x, Y.getD i 0 = x := ⟨_, rfl⟩
        have hg : ∀ hh : i < S.size, ((S[i]'hh).toNat : Int) = x := fun hh => by rw [HX.out.2.2.2.2 i hlt hh, hx]
        rw [hx] at hx46
        have xb : (x != 46) = true := by simpa using hx46
        have hbad : x < 48 ∨ 57 < x → ast Y (i + 1) = none := by
          intro h
          rcases HST.out with hg | hd
          · rw [ast_step hg.2.2 hx, if_neg hx46, if_pos (by omega)]
          · exact ast_none hd.2.2.2 1
        have HBad : Hid (x < 48 ∨ 57 < x → arcsP Y = none) := fun h => arcsP_none (by have := HX.out.2.1; omega) (hbad h)
        have HD : Hid (48 ≤ x → x ≤ 57 → Good Y f (i + 1) A ∨ Doom Y f (i + 1)) := by
          intro h0 h1
          rcases HST.out with hg | hd
          · exact good_digit hg hx h0 h1
          · exact .inr (doom_digit hd hx h0 h1)
        clear hbad hx
        by_cases q1 : x < 48
        · go_wp2
          go_ret2
          exact no.out (HBad.out (.inl q1)) _ _ H1.out.2.1 rfl
        by_cases q2 : 57 < x
        · go_wp2
          go_ret2
          exact no.out (HBad.out (.inr q2)) _ _ H1.out.2.1 rfl
        · go_wp2
          go_roundw
          case rel => exact ⟨i + 1, f, _, A, rfl, rfl, by go_num, hf, by omega, .inl ⟨by omega, HD.out (by omega) (by omega)⟩, H1.out.1, H1.out.2.1⟩
          case measure => simp [intOf]; omega
      · have hcase : ¬ i < n ∨ (i < n ∧ Y.getD i 0 = 46) := by
          by_cases h : i < n
          · right; refine ⟨h, ?_⟩
            by_cases h46 : Y.getD i 0 = 46
            · exact h46
            · exact absurd ⟨h, h46⟩ hmid
          · exact .inl h
        clear hmid
        rcases hcase with hnl | ⟨hlt, h46⟩
        · have hIn : i = n := by omega
          have l2 : ¬ (i : Int) < (n : Int) := by omega
          have HZero : Hid ((∃ A v, ast Y i = some (A, v, 0)) → arcsP Y = none) := by
            rintro ⟨A', v', h⟩
            unfold arcsP; rw [HX.out.2.1, ← hIn, h]; rfl
          have HE : Hid (ast Y i = some (A, dv Y f (i - f), i - f) → 0 < i - f → (i + 1 ≤ n ∧ (Good Y (i + 1) (i + 1) (A ++ [dv Y f (i - f)]) ∨ Doom Y (i + 1) (i + 1))) ∨ (i + 1 = n + 1 ∧ arcsP Y = some (A ++ [dv Y f (i - f)]))) := by
            intro h hk
            refine .inr ⟨by omega, ?_⟩
            unfold arcsP; rw [HX.out.2.1, ← hIn, h]; simp only [Option.bind_some]; rw [if_pos hk]
          clear hIn
          by_cases hfe : f = i
          · subst hfe
            have HN : Hid (arcsP Y = none) := HZero.out (by
              rcases HST.out with hg | hd
              · have := hg.2.2; rw [Nat.sub_self] at this; exact ⟨A, _, this⟩
              · exact absurd hd.1 (by omega))
            go_wp2
            go_ret2
            exact no.out HN.out _ _ H1.out.2.1 rfl
          have hfeb : ((i : Int) == (f : Int)) = false := by simp; omega
          obtain ⟨y, hy⟩ : ∃ y, Y.getD f 0 = y := ⟨_, rfl⟩
          have hgf : ∀ hh : f < S.size, ((S[f]'hh).toNat : Int) = y := fun hh => by rw [HX.out.2.2.2.2 f (by omega) hh, hy]
          have lfn : (f : Int) < (n : Int) := by omega
          have lf0 : (f : Int) ≤ 2001 := by omega
          by_cases hlead : y = 48 ∧ f + 1 < i
          · have HN : Hid (arcsP Y = none) := by
              rcases HST.out with hg | hd
              · obtain ⟨d, hd⟩ : ∃ d, i = f + 2 + d := ⟨i - f - 2, by omega⟩
                subst hd
                exact absurd (by rw [hy]; exact hlead.1) (good_lead d hg)
              · exact arcsP_none (by have := HX.out.2.1; omega) hd.2.2.2
            have y48 : (y == 48) = true := by simpa using hlead.1
            have lf1 : (f : Int) + 1 < (i : Int) := by omega
            clear hlead hy
            go_wp2
            go_ret2
            exact no.out HN.out _ _ H1.out.2.1 rfl
          have HG : Hid (Good Y f i A) := by
            rcases HST.out with hg | hd
            · exact hg
            · exact absurd ⟨by rw [← hy]; exact hd.2.2.1, hd.1⟩ hlead
          have hyc : (y == 48) = false ∨ ((y == 48) = true ∧ ¬ (f : Int) + 1 < (i : Int)) := by
            by_cases h : y = 48
            · right; exact ⟨by simpa using h, by intro h2; exact hlead ⟨h, by omega⟩⟩
            · left; simpa using h
          have HEnd : Hid ((i + 1 ≤ n ∧ (Good Y (i + 1) (i + 1) (A ++ [dv Y f (i - f)]) ∨ Doom Y (i + 1) (i + 1))) ∨ (i + 1 = n + 1 ∧ arcsP Y = some (A ++ [dv Y f (i - f)]))) := HE.out (by have := HG.out.2.2; exact this) (by omega)
          clear hlead hy
          rcases hyc with hyc | ⟨hyc, hyd⟩
          all_goals
            go_wp2_with fail
            go_loopw [7, 8] (fun vv kv wq => ∃ (j : Nat) (t : Int), vv = .int .i64 t ∧ kv = .int .i64 j ∧ f ≤ j ∧ j ≤ i ∧ t = capN 1099511627776 (dv Y f (j - f)) ∧ wr = wq) (fun _ kv _ => i - (intOf kv).toNat)
            case atStart => exact ⟨f, 0, rfl, rfl, by omega, by omega, by rw [Nat.sub_self]; rfl, rfl⟩
            case round =>
              obtain ⟨j, t, rfl, rfl, hfj, hji, ht, rfl⟩ := hrel
              have t0 : 0 ≤ t := by rw [ht]; unfold capN; omega
              have t1 : t ≤ 1099511627776 := by rw [ht]; unfold capN; omega
              have HT : Hid (t = capN 1099511627776 (dv Y f (j - f))) := ht
              clear ht
              by_cases hjl : j < i
              · have lj : (j : Int) < (i : Int) := by omega
                have ljn : (j : Int) < (n : Int) := by omega
                obtain ⟨z, hz⟩ : ∃ z, Y.getD j 0 = z := ⟨_, rfl⟩
                have hzd := HG.out.2.1 j hfj hjl
                rw [hz] at hzd
                have z0 := hzd.1
                have z1 := hzd.2
                have hgz : ∀ hh : j < S.size, ((S[j]'hh).toNat : Int) = z := fun hh => by rw [HX.out.2.2.2.2 j (by omega) hh, hz]
                obtain ⟨u, hu⟩ : ∃ u, z - 48 = u := ⟨_, rfl⟩
                have u0 : 0 ≤ u := by omega
                have u1 : u ≤ 9 := by omega
                obtain ⟨t2, ht2⟩ : ∃ t2, t * 10 + u = t2 := ⟨_, rfl⟩
                have t20 : 0 ≤ t2 := by omega
                have t21 : t2 ≤ 10995116277769 := by omega
                have HS2 : Hid ((t2 ≤ 1099511627776 → t2 = capN 1099511627776 (dv Y f (j + 1 - f))) ∧ (¬ t2 ≤ 1099511627776 → 1099511627776 = capN 1099511627776 (dv Y f (j + 1 - f)))) := by
                  have h1 := HT.out
                  rw [show j + 1 - f = (j - f) + 1 by omega]
                  have h2 : dv Y f (j - f + 1) = 10 * dv Y f (j - f) + (Y.getD (f + (j - f)) 0 - 48).toNat := rfl
                  rw [show f + (j - f) = j by omega, hz] at h2
                  rw [h2]
                  unfold capN at h1 ⊢
                  refine ⟨fun h => ?_, fun h => ?_⟩ <;> omega
                clear hz hzd
                by_cases qc : 1099511627776 < t2
                · go_wp2
                  go_roundw
                  case rel => exact ⟨j + 1, 1099511627776, rfl, by go_num, by omega, by omega, HS2.out.2 (by omega), trivial⟩
                  case measure => simp [intOf]; omega
                · go_wp2
                  go_roundw
                  case rel => exact ⟨j + 1, t2, rfl, by go_num, by omega, by omega, HS2.out.1 (by omega), trivial⟩
                  case measure => simp [intOf]; omega
              · obtain rfl : j = i := by omega
                have lj : ¬ (j : Int) < (j : Int) := by omega
                have HC : Hid (capL 1099511627776 (A ++ [dv Y f (j - f)]) = capL 1099511627776 A ++ [t] ∧ (capL 1099511627776 A).length ≤ 2001) := by
                  refine ⟨?_, ?_⟩
                  · unfold capL; rw [List.map_append, HT.out]; rfl
                  · unfold capL; rw [List.length_map]; omega
                go_wp2_with (at_builtin; refine wpList_ap rfl (.tmp 66) (.tmp 68) 161 161 rfl .i64 3 8 Tryz.undInt Tryz.infoInt (by decide) w.heap.size _ (capL 1099511627776 A) rfl (H1.out.1.alloc _) _ [_] rfl (src_sl Tryz.undInt (new_sl (k := .i64) [_] (0, 0))) (by have := HC.out.2; simp; omega) (by have := H1.out.2.1.size; simp; omega) ?_; intro v2 w2 hr2 hg2)
                have H2 : Hid (Row .i64 3 w.heap.size w2 v2 (capL 1099511627776 (A ++ [dv Y f (j - f)])) ∧ Below w.heap.size w w2) := ⟨by rw [HC.out.1]; exact hr2, (al2' H1.out.2.1).trans (hg2.below (H1.out.1.alloc _) (by have := H1.out.2.1.size; simp; omega))⟩
                clear hr2 hg2
                go_roundw
                case rel => exact ⟨j + 1, j + 1, _, A ++ [dv Y f (j - f)], rfl, by go_num, by go_num, by omega, by rw [List.length_append]; simp; omega, HEnd.out, H2.out.1, H2.out.2⟩
                case measure => simp [intOf]; omega
        · have l2 : (i : Int) < (n : Int) := by omega
          have hg : ∀ hh : i < S.size, ((S[i]'hh).toNat : Int) = 46 := fun hh => by rw [HX.out.2.2.2.2 i hlt hh, h46]
          have HZero : Hid ((∃ A v, ast Y i = some (A, v, 0)) → arcsP Y = none) := by
            rintro ⟨A', v', h⟩
            refine arcsP_none (i := i + 1) (by have := HX.out.2.1; omega) ?_
            rw [ast_step h h46, if_pos rfl, if_neg (by omega)]
          have HE : Hid (ast Y i = some (A, dv Y f (i - f), i - f) → 0 < i - f → (i + 1 ≤ n ∧ (Good Y (i + 1) (i + 1) (A ++ [dv Y f (i - f)]) ∨ Doom Y (i + 1) (i + 1))) ∨ (i + 1 = n + 1 ∧ arcsP Y = some (A ++ [dv Y f (i - f)]))) := by
            intro h hk
            refine .inl ⟨by omega, .inl ⟨by omega, fun j h1 h2 => by omega, ?_⟩⟩
            rw [ast_step h h46, if_pos rfl, if_pos hk, Nat.sub_self]; rfl
          clear h46
          by_cases hfe : f = i
          · subst hfe
            have HN : Hid (arcsP Y = none) := HZero.out (by
              rcases HST.out with hg | hd
              · have := hg.2.2; rw [Nat.sub_self] at this; exact ⟨A, _, this⟩
              · exact absurd hd.1 (by omega))
            go_wp2
            go_ret2
            exact no.out HN.out _ _ H1.out.2.1 rfl
          have hfeb : ((i : Int) == (f : Int)) = false := by simp; omega
          obtain ⟨y, hy⟩ : ∃ y, Y.getD f 0 = y := ⟨_, rfl⟩
          have hgf : ∀ hh : f < S.size, ((S[f]'hh).toNat : Int) = y := fun hh => by rw [HX.out.2.2.2.2 f (by omega) hh, hy]
          have lfn : (f : Int) < (n : Int) := by omega
          have lf0 : (f : Int) ≤ 2001 := by omega
          by_cases hlead : y = 48 ∧ f + 1 < i
          · have HN : Hid (arcsP Y = none) := by
              rcases HST.out with hg | hd
              · obtain ⟨d, hd⟩ : ∃ d, i = f + 2 + d := ⟨i - f - 2, by omega⟩
                subst hd
                exact absurd (by rw [hy]; exact hlead.1) (good_lead d hg)
              · exact arcsP_none (by have := HX.out.2.1; omega) hd.2.2.2
            have y48 : (y == 48) = true := by simpa using hlead.1
            have lf1 : (f : Int) + 1 < (i : Int) := by omega
            clear hlead hy
            go_wp2
            go_ret2
            exact no.out HN.out _ _ H1.out.2.1 rfl
          have HG : Hid (Good Y f i A) := by
            rcases HST.out with hg | hd
            · exact hg
            · exact absurd ⟨by rw [← hy]; exact hd.2.2.1, hd.1⟩ hlead
          have hyc : (y == 48) = false ∨ ((y == 48) = true ∧ ¬ (f : Int) + 1 < (i : Int)) := by
            by_cases h : y = 48
            · right; exact ⟨by simpa using h, by intro h2; exact hlead ⟨h, by omega⟩⟩
            · left; simpa using h
          have HEnd : Hid ((i + 1 ≤ n ∧ (Good Y (i + 1) (i + 1) (A ++ [dv Y f (i - f)]) ∨ Doom Y (i + 1) (i + 1))) ∨ (i + 1 = n + 1 ∧ arcsP Y = some (A ++ [dv Y f (i - f)]))) := HE.out (by have := HG.out.2.2; exact this) (by omega)
          clear hlead hy
          rcases hyc with hyc | ⟨hyc, hyd⟩
          all_goals
            go_wp2_with fail
            go_loopw [7, 8] (fun vv kv wq => ∃ (j : Nat) (t : Int), vv = .int .i64 t ∧ kv = .int .i64 j ∧ f ≤ j ∧ j ≤ i ∧ t = capN 1099511627776 (dv Y f (j - f)) ∧ wr = wq) (fun _ kv _ => i - (intOf kv).toNat)
            case atStart => exact ⟨f, 0, rfl, rfl, by omega, by omega, by rw [Nat.sub_self]; rfl, rfl⟩
            case round =>
              obtain ⟨j, t, rfl, rfl, hfj, hji, ht, rfl⟩ := hrel
              have t0 : 0 ≤ t := by rw [ht]; unfold capN; omega
              have t1 : t ≤ 1099511627776 := by rw [ht]; unfold capN; omega
              have HT : Hid (t = capN 1099511627776 (dv Y f (j - f))) := ht
              clear ht
              by_cases hjl : j < i
              · have lj : (j : Int) < (i : Int) := by omega
                have ljn : (j : Int) < (n : Int) := by omega
                obtain ⟨z, hz⟩ : ∃ z, Y.getD j 0 = z := ⟨_, rfl⟩
                have hzd := HG.out.2.1 j hfj hjl
                rw [hz] at hzd
                have z0 := hzd.1
                have z1 := hzd.2
                have hgz : ∀ hh : j < S.size, ((S[j]'hh).toNat : Int) = z := fun hh => by rw [HX.out.2.2.2.2 j (by omega) hh, hz]
                obtain ⟨u, hu⟩ : ∃ u, z - 48 = u := ⟨_, rfl⟩
                have u0 : 0 ≤ u := by omega
                have u1 : u ≤ 9 := by omega
                obtain ⟨t2, ht2⟩ : ∃ t2, t * 10 + u = t2 := ⟨_, rfl⟩
                have t20 : 0 ≤ t2 := by omega
                have t21 : t2 ≤ 10995116277769 := by omega
                have HS2 : Hid ((t2 ≤ 1099511627776 → t2 = capN 1099511627776 (dv Y f (j + 1 - f))) ∧ (¬ t2 ≤ 1099511627776 → 1099511627776 = capN 1099511627776 (dv Y f (j + 1 - f)))) := by
                  have h1 := HT.out
                  rw [show j + 1 - f = (j - f) + 1 by omega]
                  have h2 : dv Y f (j - f + 1) = 10 * dv Y f (j - f) + (Y.getD (f + (j - f)) 0 - 48).toNat := rfl
                  rw [show f + (j - f) = j by omega, hz] at h2
                  rw [h2]
                  unfold capN at h1 ⊢
                  refine ⟨fun h => ?_, fun h => ?_⟩ <;> omega
                clear hz hzd
                by_cases qc : 1099511627776 < t2
                · go_wp2
                  go_roundw
                  case rel => exact ⟨j + 1, 1099511627776, rfl, by go_num, by omega, by omega, HS2.out.2 (by omega), trivial⟩
                  case measure => simp [intOf]; omega
                · go_wp2
                  go_roundw
                  case rel => exact ⟨j + 1, t2, rfl, by go_num, by omega, by omega, HS2.out.1 (by omega), trivial⟩
                  case measure => simp [intOf]; omega
              · obtain rfl : j = i := by omega
                have lj : ¬ (j : Int) < (j : Int) := by omega
                have HC : Hid (capL 1099511627776 (A ++ [dv Y f (j - f)]) = capL 1099511627776 A ++ [t] ∧ (capL 1099511627776 A).length ≤ 2001) := by
                  refine ⟨?_, ?_⟩
                  · unfold capL; rw [List.map_append, HT.out]; rfl
                  · unfold capL; rw [List.length_map]; omega
                go_wp2_with (at_builtin; refine wpList_ap rfl (.tmp 66) (.tmp 68) 161 161 rfl .i64 3 8 Tryz.undInt Tryz.infoInt (by decide) w.heap.size _ (capL 1099511627776 A) rfl (H1.out.1.alloc _) _ [_] rfl (src_sl Tryz.undInt (new_sl (k := .i64) [_] (0, 0))) (by have := HC.out.2; simp; omega) (by have := H1.out.2.1.size; simp; omega) ?_; intro v2 w2 hr2 hg2)
                have H2 : Hid (Row .i64 3 w.heap.size w2 v2 (capL 1099511627776 (A ++ [dv Y f (j - f)])) ∧ Below w.heap.size w w2) := ⟨by rw [HC.out.1]; exact hr2, (al2' H1.out.2.1).trans (hg2.below (H1.out.1.alloc _) (by have := H1.out.2.1.size; simp; omega))⟩
                clear hr2 hg2
                go_roundw
                case rel => exact ⟨j + 1, j + 1, _, A ++ [dv Y f (j - f)], rfl, by go_num, by go_num, by omega, by rw [List.length_append]; simp; omega, HEnd.out, H2.out.1, H2.out.2⟩
                case measure => simp [intOf]; omega
    · have l1 : ¬ (i : Int) ≤ (n : Int) := by omega
      obtain ⟨al, cl, hv⟩ := H1.out.1.ne
      obtain ⟨k, hk⟩ : ∃ k, A.length = k := ⟨_, rfl⟩
      have hCl : (capL 1099511627776 A).length = k := by unfold capL; rw [List.length_map]; exact hk
      rw [hCl] at hv
      subst hv
      have HP : Hid (arcsP Y = some A ∧ A.length = k) := ⟨hP, hk⟩
      have hk2 : k ≤ 2001 := by omega
      have fin : Hid (∀ (W : World) (e : Ending), (∀ B v X, Row .i64 3 B wr v X → Row .i64 3 B W v X) → Below w.heap.size w W → e = .returned (.tuple #[.slice al k cl, .bool (putOk A)]) → RArAns Y w.heap.size W e ∧ Below w.heap.size w W) := fun W e h hW he => ⟨.inl ⟨A, _, HP.out.1, he, h _ _ _ H1.out.1⟩, hW⟩
      have drw : Hid (∀ q B v X, Row .i64 3 B wr v X → Row .i64 3 B (wr.drewN q) v X) := fun q B v X h => h.below ⟨rfl, rfl, rfl, Nat.le_refl _, fun _ _ => rfl⟩
      clear hP hk
      by_cases h2 : k < 2
      · have h2I : ¬ (2 : Int) ≤ (k : Int) := by omega
        have hK : putOk A = false := by unfold putOk; rw [HP.out.2]; simp; omega
        have HK : Hid (putOk A = false) := hK
        clear hK hCl
        go_upto_region 20 with (fail)
        go_quiet (fail)
        go_wp2
        go_ret2
        exact fin.out _ _ (fun B v X h => drw.out _ B v X h) (below_drewN _ H1.out.2.1) (by rw [HK.out]; rfl)
      · obtain ⟨b1, S1, hv, hB1, hA1, hl1, ht1, hm1⟩ := H1.out.1.open k hCl (by omega)
        simp only [Value.slice.injEq] at hv
        obtain ⟨rfl, _, rfl⟩ := hv
        have hrd := hA1.rd 0 k (by omega)
        rw [List.drop_zero, ht1] at hrd
        obtain ⟨a0, ha0⟩ : ∃ a0, A.getD 0 0 = a0 := ⟨_, rfl⟩
        obtain ⟨a1, ha1⟩ : ∃ a1, A.getD 1 0 = a1 := ⟨_, rfl⟩
        obtain ⟨c0, hc0⟩ : ∃ c0, capN 1099511627776 a0 = c0 := ⟨_, rfl⟩
        obtain ⟨c1, hc1⟩ : ∃ c1, capN 1099511627776 a1 = c1 := ⟨_, rfl⟩
        have d0 : wr.cell? ⟨b1, 0, none⟩ = some (.int .i64 c0) := by
          have := hrd 0 (by omega)
          rw [capL_get, if_pos (by rw [HP.out.2]; omega), ha0, hc0] at this
          exact this
        have d1 : wr.cell? ⟨b1, 1, none⟩ = some (.int .i64 c1) := by
          have := hrd 1 (by omega)
          rw [capL_get, if_pos (by rw [HP.out.2]; omega), ha1, hc1] at this
          exact this
        have e0 : c0 = ((min a0 1099511627776 : Nat) : Int) := by rw [← hc0]; rfl
        have e1 : c1 = ((min a1 1099511627776 : Nat) : Int) := by rw [← hc1]; rfl
        have hK : putOk A = decide (c0 ≤ 2 ∧ (c0 = 2 ∨ c1 < 40)) := by
          unfold putOk
          rw [HP.out.2, ha0, ha1]
          congr 1
          rw [eq_iff_iff]
          omega
        have HK : Hid (putOk A = decide (c0 ≤ 2 ∧ (c0 = 2 ∨ c1 < 40))) := hK
        have h2I : (2 : Int) ≤ (k : Int) := by omega
        have h1I : (1 : Int) < (k : Int) := by omega
        clear hrd ha0 ha1 hc0 hc1 e0 e1 hK hA1 ht1 hm1 hB1 hCl
        by_cases p0 : c0 ≤ 2
        · by_cases p1 : c0 = 2
          · subst p1
            go_upto_region 20 with (fail)
            go_quiet (fail)
            go_wp2
            go_ret2
            exact fin.out _ _ (fun B v X h => drw.out _ B v X h) (below_drewN _ H1.out.2.1) (by rw [HK.out]; simp)
          · have p1b : (c0 == 2) = false := by simpa using p1
            by_cases p2 : c1 < 40
            · go_upto_region 20 with (fail)
              go_quiet (fail)
              go_wp2
              go_ret2
              exact fin.out _ _ (fun B v X h => drw.out _ B v X h) (below_drewN _ H1.out.2.1) (by rw [HK.out, show decide (c0 ≤ 2 ∧ (c0 = 2 ∨ c1 < 40)) = true by simp; omega]; rfl)
            · go_upto_region 20 with (fail)
              go_quiet (fail)
              go_wp2
              go_ret2
              exact fin.out _ _ (fun B v X h => drw.out _ B v X h) (below_drewN _ H1.out.2.1) (by rw [HK.out, show decide (c0 ≤ 2 ∧ (c0 = 2 ∨ c1 < 40)) = false by simp; omega]; rfl)
        · go_upto_region 20 with (fail)
          go_quiet (fail)
          go_wp2
          go_ret2
          exact fin.out _ _ (fun B v X h => drw.out _ B v X h) (below_drewN _ H1.out.2.1) (by rw [HK.out, show decide (c0 ≤ 2 ∧ (c0 = 2 ∨ c1 < 40)) = false by simp; omega]; rfl)
end Go.Proofs.YtillkhjihggcjaaGreatDoor
