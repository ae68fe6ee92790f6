/-
  Der: any text as an object identifier's bytes.
-/
import Derived.Test.YtndcpjnfdgojkaaDoorE76
namespace Go.Proofs.YtndcpjnfdgojkaaDoor
open Go.RowKit
/-- How many groups of seven bits a number has, less one. -/
def kOf (n : Nat) : Nat := if h : n < 128 then 0 else kOf (n / 128) + 1
termination_by n
decreasing_by omega
theorem kOf_lo {n : Nat} (h : n < 128) : kOf n = 0 := by rw [kOf, dif_pos h]
theorem kOf_hi {n : Nat} (h : ¬ n < 128) : kOf n = kOf (n / 128) + 1 := by rw [kOf, dif_neg h]
theorem div_pow1 (n j : Nat) : n / 128 ^ (j + 1) = n / 128 / 128 ^ j := by rw [Nat.pow_succ, Nat.mul_comm, Nat.div_div_eq_div_mul]
theorem kOf_spec (n : Nat) : n / 128 ^ kOf n < 128 ∧ ∀ j, j < kOf n → 128 ≤ n / 128 ^ j := by
  induction n using Nat.strongRecOn with
  | _ n ih =>
    by_cases h : n < 128
    · rw [kOf_lo h]; exact ⟨by simpa using h, fun j hj => by omega⟩
    · have := ih (n / 128) (by omega)
      rw [kOf_hi h]
      refine ⟨by rw [div_pow1]; exact this.1, fun j hj => ?_⟩
      cases j with
      | zero => simp; omega
      | succ j => rw [div_pow1]; exact this.2 j (by omega)
theorem kOf_le (m : Nat) : ∀ n, n < 128 ^ (m + 1) → kOf n ≤ m := by
  induction m with
  | zero => intro n h; rw [kOf_lo (by simpa using h)]; omega
  | succ m ih =>
    intro n h
    by_cases h1 : n < 128
    · rw [kOf_lo h1]; omega
    · rw [kOf_hi h1]
      have : n / 128 < 128 ^ (m + 1) := by rw [Nat.div_lt_iff_lt_mul (by decide)]; rw [Nat.pow_succ] at h; exact h
      have := ih _ this; omega
def sevL (n : Nat) : List Int := sev (kOf n) n
def hiG (v : Nat) : List Int := if _h : v = 0 then [] else hiG (v / 128) ++ [((v % 128 + 128 : Nat) : Int)]
termination_by v
decreasing_by omega
theorem tp_shift (n k : Nat) : ∀ i, i ≤ k → tp n (k + 1) i = tp (n / 128) k i
  | 0, _ => rfl
  | i + 1, hi => by
    show tp n (k + 1) i ++ [gr n (k + 1 - i)] = tp (n / 128) k i ++ [gr (n / 128) (k - i)]
    rw [tp_shift n k i (by omega), show k + 1 - i = (k - i) + 1 by omega]
    congr 2
    unfold gr
    rw [div_pow1]
theorem sevL_hi (n : Nat) : sevL n = hiG (n / 128) ++ [((n % 128 : Nat) : Int)] := by
  have key : ∀ n, tp n (kOf n) (kOf n) = hiG (n / 128) := by
    intro n
    induction n using Nat.strongRecOn with
    | _ n ih =>
      by_cases h : n < 128
      · rw [kOf_lo h, show n / 128 = 0 by omega, hiG, dif_pos rfl]; rfl
      · have h1 := ih (n / 128) (by omega)
        rw [kOf_hi h, hiG, dif_neg (by omega), ← h1]
        show tp n (kOf (n / 128) + 1) (kOf (n / 128)) ++ [gr n (kOf (n / 128) + 1 - kOf (n / 128))] = _
        rw [tp_shift n _ _ (Nat.le_refl _), show kOf (n / 128) + 1 - kOf (n / 128) = 0 + 1 by omega]
        unfold gr
        simp
  unfold sevL sev
  rw [key]
theorem sevL_len (n : Nat) (h : n ≤ 4294967295) : (sevL n).length ≤ 5 := by
  unfold sevL
  have := kOf_le 4 n (by omega)
  unfold sev
  rw [List.length_append, tp_len]; simp; omega
def putOk (A : List Nat) : Bool := decide (2 ≤ A.length ∧ A.getD 0 0 ≤ 2 ∧ (A.getD 0 0 = 2 ∨ A.getD 1 0 < 40))
def putLong (A : List Nat) : Bool := A.any fun v => decide (2147483647 < v)
def putB (A : List Nat) : List Int := sevL (40 * A.getD 0 0 + A.getD 1 0) ++ (A.drop 2).flatMap sevL
/-- What PutOid tells of a text. -/
def PutR (Y b : List Int) (er : Int) : Prop :=
  ((∀ A, arcsP Y = some A → putOk A = false) ∧ b = [] ∧ er = 6) ∨ (∃ A, arcsP Y = some A ∧ putOk A = true ∧ putLong A = true ∧ b = [] ∧ er = 3) ∨ (∃ A, arcsP Y = some A ∧ putOk A = true ∧ putLong A = false ∧ b = putB A ∧ er = 0)
theorem PutR.uniq {Y b b' : List Int} {e e' : Int} (h : PutR Y b e) (h' : PutR Y b' e') : b = b' ∧ e = e' := by
  rcases h with ⟨h1, rfl, rfl⟩ | ⟨A, h1, h2, h3, rfl, rfl⟩ | ⟨A, h1, h2, h3, rfl, rfl⟩ <;> rcases h' with ⟨g1, rfl, rfl⟩ | ⟨A', g1, g2, g3, rfl, rfl⟩ | ⟨A', g1, g2, g3, rfl, rfl⟩
  · exact ⟨rfl, rfl⟩
  · rw [h1 A' g1] at g2; cases g2
  · rw [h1 A' g1] at g2; cases g2
  · rw [g1 A h1] at h2; cases h2
  · exact ⟨rfl, rfl⟩
  · rw [h1] at g1; cases g1; rw [h3] at g3; cases g3
  · rw [g1 A h1] at h2; cases h2
  · rw [h1] at g1; cases g1; rw [h3] at g3; cases g3
  · rw [h1] at g1; cases g1; exact ⟨rfl, rfl⟩
theorem arcsP_len {Y : List Int} {A : List Nat} (h : arcsP Y = some A) : A.length ≤ Y.length + 1 := by
  unfold arcsP at h
  cases hq : ast Y Y.length with
  | none => rw [hq] at h; cases h
  | some q =>
    obtain ⟨l, v, k⟩ := q
    have := ast_len Y _ l v k hq
    rw [hq] at h
    simp only [Option.bind_some] at h
    split at h
    · cases h; simp; omega
    · cases h
theorem capL_get (c : Nat) (A : List Nat) (i : Nat) : (capL c A).getD i 0 = if i < A.length then capN c (A.getD i 0) else 0 := by
  unfold capL
  by_cases h : i < A.length
  · simp [List.getD, h]
  · simp [List.getD, h]
theorem flat_snoc (T : List Nat) (i : Nat) (hi : i < T.length) : (T.take (i + 1)).flatMap sevL = (T.take i).flatMap sevL ++ sevL (T.getD i 0) := by
  rw [List.take_succ_eq_append_getElem hi, List.flatMap_append, List.getD_eq_getElem?_getD, List.getElem?_eq_getElem hi]
  simp
theorem flat_len : ∀ T : List Nat, (∀ v ∈ T, v ≤ 4294967295) → (T.flatMap sevL).length ≤ 5 * T.length
  | [], _ => by simp
  | v :: T, h => by
    have h1 := flat_len T (fun x hx => h x (by simp [hx]))
    have h2 := sevL_len v (h v (by simp))
    rw [List.flatMap_cons, List.length_append, List.length_cons]; omega
theorem sevensL_any {w : World} (B : Nat) (v : Value) (X : List Int) (n : Nat) (hr : Row .u8 5 B w v X) (hB : B ≤ w.heap.size) (hn : n ≤ 4294967295) (hX : X.length ≤ 100000000) :
    Calls Tryd.prog 49 #[v, .int .u64 n] w fun e w' => ∃ r, e = .returned r ∧ Row .u8 5 B w' r (X ++ sevL n) ∧ Below B w w' :=
  sevens_any B v X n (kOf n) hr hB (kOf_spec n).1 (kOf_spec n).2 (by have := kOf_le 4 n (by omega); omega) (by omega) hX
end Go.Proofs.YtndcpjnfdgojkaaDoor
