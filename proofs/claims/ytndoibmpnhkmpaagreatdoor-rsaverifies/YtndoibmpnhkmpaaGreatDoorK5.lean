/-
  Der: any text as an object identifier's bytes.
-/
import Derived.Deep.QuietTactic
import Derived.BigQuiet
import Derived.Deep.CutRange
import Derived.Test.YtndoibmpnhkmpaaGreatDoorK4
namespace Go.Proofs.YtndoibmpnhkmpaaGreatDoor
open Go.RowKit
/-- How many groups of seven bits a number has, less one. -/
def kOf (n : Nat) : Nat := if h : n < 128 then 0 else kOf (n / 128) + 1
termination_by n
decreasing_by omega
theorem kOf_lo {n : Nat} (h : n < 128) : kOf n = 0 := by rw [kOf, dif_pos h]
theorem kOf_hi {n : Nat} (h : ¬ n < 128) : kOf n = kOf (n / 128) + 1 := by rw [kOf, dif_neg h]
theorem div_pow1 (n j : Nat) : n / 128 ^ (j + 1) = n / 128 / 128 ^ j := by rw [Nat.pow_succ, Nat.mul_comm, Nat.div_div_eq_div_mul]
theorem kOf_spec (n : Nat) : n / 128 ^ kOf n < 128 ∧ ∀ j, j < kOf n → 128 ≤ n / 128 ^ j := by
  induction n using Nat.strongRecOn with
  | _ n ih =>
    by_cases h : n < 128
    · rw [kOf_lo h]; exact ⟨by simpa using h, fun j hj => by omega⟩
    · have := ih (n / 128) (by omega)
      rw [kOf_hi h]
      refine ⟨by rw [div_pow1]; exact this.1, fun j hj => ?_⟩
      cases j with
      | zero => simp; omega
      | succ j => rw [div_pow1]; exact this.2 j (by omega)
theorem kOf_le (m : Nat) : ∀ n, n < 128 ^ (m + 1) → kOf n ≤ m := by
  induction m with
  | zero => intro n h; rw [kOf_lo (by simpa using h)]; omega
  | succ m ih =>
    intro n h
    by_cases h1 : n < 128
    · rw [kOf_lo h1]; omega
    · rw [kOf_hi h1]
      have : n / 128 < 128 ^ (m + 1) := by rw [Nat.div_lt_iff_lt_mul (by decide)]; rw [Nat.pow_succ] at h; exact h
      have := ih _ this; omega
def sevL (n : Nat) : List Int := sev (kOf n) n
def hiG (v : Nat) : List Int := if _h : v = 0 then [] else hiG (v / 128) ++ [((v % 128 + 128 : Nat) : Int)]
termination_by v
decreasing_by omega
theorem tp_shift (n k : Nat) : ∀ i, i ≤ k → tp n (k + 1) i = tp (n / 128) k i
  | 0, _ => rfl
  | i + 1, hi => by
    show tp n (k + 1) i ++ [gr n (k + 1 - i)] = tp (n / 128) k i ++ [gr (n / 128) (k - i)]
    rw [tp_shift n k i (by omega), show k + 1 - i = (k - i) + 1 by omega]
    congr 2
    unfold gr
    rw [div_pow1]
theorem sevL_hi (n : Nat) : sevL n = hiG (n / 128) ++ [((n % 128 : Nat) : Int)] := by
  have key : ∀ n, tp n (kOf n) (kOf n) = hiG (n / 128) := by
    intro n
    induction n using Nat.strongRecOn with
    | _ n ih =>
      by_cases h : n < 128
      · rw [kOf_lo h, show n / 128 = 0 by omega, hiG, dif_pos rfl]; rfl
      · have h1 := ih (n / 128) (by omega)
        rw [kOf_hi h, hiG, dif_neg (by omega), ← h1]
        show tp n (kOf (n / 128) + 1) (kOf (n / 128)) ++ [gr n (kOf (n / 128) + 1 - kOf (n / 128))] = _
        rw [tp_shift n _ _ (Nat.le_refl _), show kOf (n / 128) + 1 - kOf (n / 128) = 0 + 1 by omega]
        unfold gr
        simp
  unfold sevL sev
  rw [key]
theorem sevL_len (n : Nat) (h : n ≤ 4294967295) : (sevL n).length ≤ 5 := by
  unfold sevL
  have := kOf_le 4 n (by omega)
  unfold sev
  rw [List.length_append, tp_len]; simp; omega
def putOk (A : List Nat) : Bool := decide (2 ≤ A.length ∧ A.getD 0 0 ≤ 2 ∧ (A.getD 0 0 = 2 ∨ A.getD 1 0 < 40))
def putLong (A : List Nat) : Bool := A.any fun v => decide (2147483647 < v)
def putB (A : List Nat) : List Int := sevL (40 * A.getD 0 0 + A.getD 1 0) ++ (A.drop 2).flatMap sevL
/-- What PutOid tells of a text. -/
def PutR (Y b : List Int) (er : Int) : Prop :=
  ((∀ A, arcsP Y = some A → putOk A = false) ∧ b = [] ∧ er = 6) ∨ (∃ A, arcsP Y = some A ∧ putOk A = true ∧ putLong A = true ∧ b = [] ∧ er = 3) ∨ (∃ A, arcsP Y = some A ∧ putOk A = true ∧ putLong A = false ∧ b = putB A ∧ er = 0)
theorem PutR.uniq {Y b b' : List Int} {e e' : Int} (h : PutR Y b e) (h' : PutR Y b' e') : b = b' ∧ e = e' := by
  rcases h with ⟨h1, rfl, rfl⟩ | ⟨A, h1, h2, h3, rfl, rfl⟩ | ⟨A, h1, h2, h3, rfl, rfl⟩ <;> rcases h' with ⟨g1, rfl, rfl⟩ | ⟨A', g1, g2, g3, rfl, rfl⟩ | ⟨A', g1, g2, g3, rfl, rfl⟩
  · exact ⟨rfl, rfl⟩
  · rw [h1 A' g1] at g2; cases g2
  · rw [h1 A' g1] at g2; cases g2
  · rw [g1 A h1] at h2; cases h2
  · exact ⟨rfl, rfl⟩
  · rw [h1] at g1; cases g1; rw [h3] at g3; cases g3
  · rw [g1 A h1] at h2; cases h2
  · rw [h1] at g1; cases g1; rw [h3] at g3; cases g3
  · rw [h1] at g1; cases g1; exact ⟨rfl, rfl⟩
theorem arcsP_len {Y : List Int} {A : List Nat} (h : arcsP Y = some A) : A.length ≤ Y.length + 1 := by
  unfold arcsP at h
  cases hq : ast Y Y.length with
  | none => rw [hq] at h; cases h
  | some q =>
    obtain ⟨l, v, k⟩ := q
    have := ast_len Y _ l v k hq
    rw [hq] at h
    simp only [Option.bind_some] at h
    split at h
    · cases h; simp; omega
    · cases h
theorem capL_get (c : Nat) (A : List Nat) (i : Nat) : (capL c A).getD i 0 = if i < A.length then capN c (A.getD i 0) else 0 := by
  unfold capL
  by_cases h : i < A.length
  · simp [List.getD, h]
  · simp [List.getD, h]
theorem flat_snoc (T : List Nat) (i : Nat) (hi : i < T.length) : (T.take (i + 1)).flatMap sevL = (T.take i).flatMap sevL ++ sevL (T.getD i 0) := by
  rw [List.take_succ_eq_append_getElem hi, List.flatMap_append, List.getD_eq_getElem?_getD, List.getElem?_eq_getElem hi]
  simp
theorem flat_len : ∀ T : List Nat, (∀ v ∈ T, v ≤ 4294967295) → (T.flatMap sevL).length ≤ 5 * T.length
  | [], _ => by simp
  | v :: T, h => by
    have h1 := flat_len T (fun x hx => h x (by simp [hx]))
    have h2 := sevL_len v (h v (by simp))
    rw [List.flatMap_cons, List.length_append, List.length_cons]; omega
theorem sevensL_any {w : World} (B : Nat) (v : Value) (X : List Int) (n : Nat) (hr : Row .u8 5 B w v X) (hB : B ≤ w.heap.size) (hn : n ≤ 4294967295) (hX : X.length ≤ 100000000) :
    Calls Tryz.prog 120 #[v, .int .u64 n] w fun e w' => ∃ r, e = .returned r ∧ Row .u8 5 B w' r (X ++ sevL n) ∧ Below B w w' :=
  sevens_any B v X n (kOf n) hr hB (kOf_spec n).1 (kOf_spec n).2 (by have := kOf_le 4 n (by omega); omega) (by omega) hX
end Go.Proofs.YtndoibmpnhkmpaaGreatDoor
/-
  Der: PutOid of any text.
-/
namespace Go.Proofs.YtndoibmpnhkmpaaGreatDoor
open Go.RowKit
set_option maxRecDepth 20000 in
set_option maxHeartbeats 8000000 in
theorem PutOid_any {w : World} (Y : List Int) (hU : U8s Y) (hl : Y.length ≤ 2000) :
    Calls Tryz.prog 97 #[.string (strOfNums Y)] w fun e w' => (∃ r b er, PutR Y b er ∧ e = .returned (.tuple #[r, .int .i64 er]) ∧ Sl .u8 w' r b) ∧ Below w.heap.size w w' := by
  have HX : Hid (U8s Y ∧ Y.length ≤ 2000) := ⟨hU, hl⟩
  clear hU hl
  go_enter Tryz.func97, Tryz.ntmps97
  go_wp2_with fail
  refine (written_any Y HX.out.1 HX.out.2).mono ?_
  rintro e w1 ⟨ha, hb1⟩
  have HB1 : Hid (Below w.heap.size w w1) := hb1
  have six : Hid ((∀ A, arcsP Y = some A → putOk A = false) → ∀ (W : World) (e : Ending), Below w.heap.size w W → e = .returned (.tuple #[.slice none 0 0, .int .i64 6]) → (∃ r b er, PutR Y b er ∧ e = .returned (.tuple #[r, .int .i64 er]) ∧ Sl .u8 W r b) ∧ Below w.heap.size w W) := fun h W e hW he => ⟨⟨_, [], 6, .inl ⟨h, rfl, rfl⟩, he, nil_sl _⟩, hW⟩
  rcases ha with ⟨A, r1, hA, rfl, hr1⟩ | ⟨hno, r1, rfl⟩
  · have hAl : A.length ≤ 2001 := by have := arcsP_len hA; have := HX.out.2; omega
    obtain ⟨n, hn⟩ : ∃ n, A.length = n := ⟨_, rfl⟩
    have hCl : (capL 2147483648 A).length = n := by unfold capL; rw [List.length_map]; exact hn
    obtain ⟨al, cl, hv⟩ := hr1.ne
    rw [hCl] at hv
    subst hv
    have H1 : Hid (arcsP Y = some A ∧ A.length = n ∧ Row .u64 79 (w.heap.size + 1) w1 (.slice al n cl) (capL 2147483648 A) ∧ Below w.heap.size w w1) := ⟨hA, hn, hr1, hb1⟩
    have hn2 : n ≤ 2001 := by omega
    clear hb1
    by_cases h2 : n < 2
    · have h2I : (n : Int) < 2 := by omega
      have HN : Hid (∀ A', arcsP Y = some A' → putOk A' = false) := by
        intro A' h; rw [H1.out.1] at h; cases h; unfold putOk; simp; omega
      clear hr1 hA hCl
      go_wp2
      go_ret2
      exact six.out HN.out _ _ H1.out.2.2.2 rfl
    · have h2I : ¬ (n : Int) < 2 := by omega
      obtain ⟨b1, S1, hv, hB1, hA1, hl1, ht1, hm1⟩ := hr1.open n hCl (by omega)
      simp only [Value.slice.injEq] at hv
      obtain ⟨rfl, _, rfl⟩ := hv
      have hrd : Rd .u64 w1 b1 0 (capL 2147483648 A) := by
        have := hA1.rd 0 n (by omega)
        rw [List.drop_zero, ht1] at this
        exact this
      have g : ∀ i, i < n → w1.cell? ⟨b1, i, none⟩ = some (.int .u64 (capN 2147483648 (A.getD i 0))) := by
        intro i hi
        have := hrd i (by omega)
        rw [Nat.zero_add, capL_get, if_pos (by omega)] at this
        exact this
      obtain ⟨a0, ha0⟩ : ∃ a0, A.getD 0 0 = a0 := ⟨_, rfl⟩
      obtain ⟨a1, ha1⟩ : ∃ a1, A.getD 1 0 = a1 := ⟨_, rfl⟩
      obtain ⟨c0, hc0⟩ : ∃ c0, capN 2147483648 a0 = c0 := ⟨_, rfl⟩
      obtain ⟨c1, hc1⟩ : ∃ c1, capN 2147483648 a1 = c1 := ⟨_, rfl⟩
      have d0 : w1.cell? ⟨b1, 0, none⟩ = some (.int .u64 c0) := by rw [g 0 (by omega), ha0, hc0]
      have d1 : w1.cell? ⟨b1, 1, none⟩ = some (.int .u64 c1) := by rw [g 1 (by omega), ha1, hc1]
      have e0 : c0 = ((min a0 2147483648 : Nat) : Int) := by rw [← hc0]; rfl
      have e1 : c1 = ((min a1 2147483648 : Nat) : Int) := by rw [← hc1]; rfl
      have HA : Hid (A.getD 0 0 = a0 ∧ A.getD 1 0 = a1 ∧ c0 = ((min a0 2147483648 : Nat) : Int) ∧ c1 = ((min a1 2147483648 : Nat) : Int) ∧ Rd .u64 w1 b1 0 (capL 2147483648 A) ∧ b1 < w1.heap.size ∧ w.heap.size + 1 ≤ b1) := ⟨ha0, ha1, e0, e1, hrd, hA1.lt, hB1⟩
      have c00 : 0 ≤ c0 := by omega
      have c10 : 0 ≤ c1 := by omega
      have c11 : c1 ≤ 2147483648 := by omega
      have bad : Hid (¬ (a0 ≤ 2 ∧ (a0 = 2 ∨ a1 < 40)) → ∀ A', arcsP Y = some A' → putOk A' = false) := by
        intro h A' h'; rw [H1.out.1] at h'; cases h'; unfold putOk; rw [HA.out.1, HA.out.2.1]; simp only [decide_eq_false_iff_not]; omega
      clear hr1 hA hCl hA1 hrd g ht1 hm1 ha0 ha1 hc0 hc1 hB1
      obtain ⟨k1, hk1⟩ : ∃ k, S1.length = k := ⟨_, rfl⟩
      rw [hk1] at hl1 H1 ⊢
      clear hk1
      by_cases q1 : 2 < c0
      · have HN := bad.out (by omega)
        have HN' : Hid (∀ A', arcsP Y = some A' → putOk A' = false) := HN
        clear HN e0 e1
        go_wp2
        go_ret2
        exact six.out HN'.out _ _ H1.out.2.2.2 rfl
      by_cases q2 : c0 < 2 ∧ 40 ≤ c1
      · have HN' : Hid (∀ A', arcsP Y = some A' → putOk A' = false) := bad.out (by omega)
        obtain ⟨q2a, q2b⟩ := q2
        clear e0 e1
        go_wp2
        go_ret2
        exact six.out HN'.out _ _ H1.out.2.2.2 rfl
      have HOk : Hid (putOk A = true ∧ (a0 : Int) = c0 ∧ a0 ≤ 2) := by
        refine ⟨?_, by omega, by omega⟩
        unfold putOk; rw [HA.out.1, HA.out.2.1]; simp only [decide_eq_true_eq]
        have := H1.out.2.1
        omega
      have q2c : (¬ c0 < 2) ∨ (c0 < 2 ∧ ¬ 40 ≤ c1) := by omega
      have hc2 : c0 ≤ 2 := by omega
      have hU64 : U64s (capL 2147483648 A) := by
        intro z hz
        unfold capL at hz
        obtain ⟨u, _, rfl⟩ := List.mem_map.1 hz
        unfold capN; omega
      obtain ⟨m, hm⟩ : ∃ m, mxN (capL 2147483648 A) n = m := ⟨_, rfl⟩
      have HM : Hid (mxN (capL 2147483648 A) n = m ∧ U64s (capL 2147483648 A) ∧ ((2147483647 : Int) < m ↔ putLong A = true)) := by
        refine ⟨hm, hU64, ?_⟩
        have h3 := mxN_gt (X := capL 2147483648 A) 2147483647 n (by omega)
        rw [hm] at h3
        rw [h3]
        unfold putLong
        rw [List.any_eq_true]
        have hn' := H1.out.2.1
        constructor
        · rintro ⟨j, hj, h⟩
          rw [capL_get, if_pos (by omega)] at h
          refine ⟨A[j]'(by omega), List.getElem_mem _, ?_⟩
          rw [List.getD_eq_getElem?_getD, List.getElem?_eq_getElem (by omega)] at h
          unfold capN at h
          simp at h ⊢; omega
        · rintro ⟨u, hu, h⟩
          obtain ⟨j, hj, rfl⟩ := List.mem_iff_getElem.1 hu
          refine ⟨j, by omega, ?_⟩
          rw [capL_get, if_pos (by omega), List.getD_eq_getElem?_getD, List.getElem?_eq_getElem (by omega)]
          unfold capN
          simp at h ⊢; omega
      have m0 : 0 ≤ m := by rw [← hm]; exact (mxN_bd hU64 n).1
      have m1 : m < 18446744073709551616 := by rw [← hm]; exact (mxN_bd hU64 n).2
      clear hm hU64 e0 e1 q2
      rcases q2c with q2c | ⟨q2a, q2b⟩
      all_goals
        go_wp2_with fail
        refine (Max_any b1 k1 n (capL 2147483648 A) HA.out.2.2.2.2.1 (by unfold capL; rw [List.length_map]; exact H1.out.2.1) (by omega) (by omega) HM.out.2.1).mono ?_
        rw [HM.out.1]
        rintro e w2 ⟨rfl, rfl⟩
        by_cases hlong : (2147483647 : Int) < m
        · have HL : Hid (putLong A = true) := HM.out.2.2.1 hlong
          go_wp2
          go_ret2
          exact ⟨⟨_, [], 3, .inr (.inl ⟨A, H1.out.1, HOk.out.1, HL.out, rfl, rfl⟩), rfl, nil_sl _⟩, H1.out.2.2.2⟩
        have hnl : putLong A = false := by
          cases h : putLong A with
          | false => rfl
          | true => exact absurd (HM.out.2.2.2 h) hlong
        have hall : ∀ u ∈ A, u ≤ 2147483647 := by
          intro u hu
          unfold putLong at hnl
          rw [List.any_eq_false] at hnl
          have := hnl u hu
          simp at this; omega
        have hcell : ∀ i, i < n → w1.cell? ⟨b1, i, none⟩ = some (.int .u64 ((A.getD i 0 : Nat) : Int)) := by
          intro i hi
          have h3 := HA.out.2.2.2.2.1 i (by unfold capL; rw [List.length_map, H1.out.2.1]; exact hi)
          rw [Nat.zero_add, capL_get, if_pos (by rw [H1.out.2.1]; exact hi)] at h3
          rw [h3]
          have h4 : A.getD i 0 ≤ 2147483647 := by
            rw [List.getD_eq_getElem?_getD, List.getElem?_eq_getElem (by rw [H1.out.2.1]; exact hi)]
            exact hall _ (List.getElem_mem _)
          unfold capN
          congr 3
          omega
        have e1 : (a1 : Int) = c1 := by
          have h5 := HA.out.2.2.2.1
          have h4 : a1 ≤ 2147483647 := by
            rw [← HA.out.2.1, List.getD_eq_getElem?_getD, List.getElem?_eq_getElem (by rw [H1.out.2.1]; omega)]
            exact hall _ (List.getElem_mem _)
          omega
        obtain ⟨s0, hs0⟩ : ∃ s0 : Nat, 40 * a0 + a1 = s0 := ⟨_, rfl⟩
        have hs1 : 40 * c0 + c1 = (s0 : Int) := by have := HOk.out.2.1; omega
        have hs2 : s0 ≤ 4294967295 := by have := HOk.out.2.2; omega
        have HN : Hid (putLong A = false ∧ (∀ u ∈ A, u ≤ 2147483647) ∧ (∀ i, i < n → w1.cell? ⟨b1, i, none⟩ = some (.int .u64 ((A.getD i 0 : Nat) : Int))) ∧ 40 * A.getD 0 0 + A.getD 1 0 = s0) := ⟨hnl, hall, hcell, by rw [HA.out.1, HA.out.2.1]; exact hs0⟩
        clear hnl hall hcell e1 hs0
        have b1w : b1 < w1.heap.size := HA.out.2.2.2.2.2.1
        go_upto_region 6 with (fail)
        have hn1 : (1 : Int) < (n : Int) := by omega
        refine wp_region_qsd 8 (by kernel_rfl) (by kernel_rfl) ?_
        simp only [List.take_succ_cons, List.take_zero, List.drop_succ_cons, List.drop_zero]
        repeat (go_big_quiet_step (fail))
        refine wpQuiet_nil ?_
        rintro _ ⟨q3, rfl⟩
        go_wp2_with fail
        refine (sevensL_any (w := w1.drewN q3) w1.heap.size (.slice none 0 0) [] s0 (Row.nil _ _ _ _) (by exact Nat.le_refl w1.heap.size) hs2 (by simp)).mono ?_
        rintro e w3 ⟨r3, rfl, hr3, hb3⟩
        rw [List.nil_append] at hr3
        have H3 : Hid (Row .u8 5 w1.heap.size w3 r3 (sevL s0) ∧ Below w1.heap.size w1 w3) := ⟨hr3, (below_drewN _ (Below.refl _ _)).trans hb3⟩
        clear hr3 hb3 d0 d1
        obtain ⟨T, hT⟩ : ∃ T, A.drop 2 = T := ⟨_, rfl⟩
        obtain ⟨n2, hn2'⟩ : ∃ n2, n - 2 = n2 := ⟨_, rfl⟩
        have HT : Hid (A.drop 2 = T ∧ T.length = n2 ∧ n = n2 + 2) := ⟨hT, by rw [← hT, List.length_drop, H1.out.2.1]; exact hn2', by omega⟩
        have hkn : (2 : Int) ≤ (k1 : Int) := by omega
        have h2n : (2 : Int) ≤ (n : Int) := by omega
        obtain ⟨ba, hba⟩ : ∃ ba : Option Addr, (if k1 = 2 then some ⟨b1, 0, none⟩ else some ⟨b1, 2, none⟩) = ba := ⟨_, rfl⟩
        have HBA : Hid (0 < n2 → ba = some ⟨b1, 2, none⟩) := by intro h; rw [← hba, if_neg (by omega)]
        clear hT
        go_wp2_with fail
        go_loopw [6, 54] (fun bv iv wr => ∃ (i : Nat) (s1 : Value), s1 = bv ∧ iv = .int .i64 i ∧ i ≤ n2 ∧ Row .u8 5 w1.heap.size wr s1 (sevL s0 ++ (T.take i).flatMap sevL) ∧ Below w1.heap.size w1 wr) (fun _ iv _ => n2 - (intOf iv).toNat)
        case atStart => exact ⟨0, _, rfl, rfl, by omega, by simpa using H3.out.1, H3.out.2⟩
        case round =>
          obtain ⟨i, s1, rfl, rfl, hi, hr, hb⟩ := hrel
          have H5 : Hid (Row .u8 5 w1.heap.size wr s1 (sevL s0 ++ (T.take i).flatMap sevL) ∧ Below w1.heap.size w1 wr) := ⟨hr, hb⟩
          clear hr hb
          by_cases hlt : i < n2
          · have l1 : (i : Int) < (n2 : Int) := by omega
            have hb2 := HBA.out (by omega)
            obtain ⟨u, hu⟩ : ∃ u, T.getD i 0 = u := ⟨_, rfl⟩
            have hTA : T.getD i 0 = A.getD (2 + i) 0 := by rw [← HT.out.1, List.getD_eq_getElem?_getD, List.getD_eq_getElem?_getD, List.getElem?_drop]
            have hu2 : u ≤ 2147483647 := by
              have hlA : 2 + i < A.length := by have := H1.out.2.1; have := HT.out.2.2; omega
              rw [← hu, hTA, List.getD_eq_getElem?_getD, List.getElem?_eq_getElem hlA]
              exact HN.out.2.1 _ (List.getElem_mem _)
            have cu : wr.cell? ⟨b1, 2 + i, none⟩ = some (.int .u64 (u : Int)) := by
              rw [H5.out.2.cell (p := ⟨b1, 2 + i, none⟩) b1w, HN.out.2.2.1 (2 + i) (by have := HT.out.2.2; omega), ← hTA, hu]
            have HU : Hid (T.getD i 0 = u ∧ (sevL s0 ++ (T.take i).flatMap sevL).length ≤ 100000) := by
              refine ⟨hu, ?_⟩
              have h1 := sevL_len s0 hs2
              have h2 := flat_len (T.take i) (fun z hz => by
                have hz2 : z ∈ A := by have := List.mem_of_mem_take hz; rw [← HT.out.1] at this; exact List.mem_of_mem_drop this
                have := HN.out.2.1 z hz2; omega)
              rw [List.length_take] at h2
              rw [List.length_append]; omega
            clear hu hTA
            subst hb2
            go_wp2_with fail
            refine (sevensL_any w1.heap.size s1 _ u H5.out.1 H5.out.2.size (by omega) (by have := HU.out.2; omega)).mono ?_
            rintro e w6 ⟨r6, rfl, hr6, hb6⟩
            have H6 : Hid (Row .u8 5 w1.heap.size w6 r6 (sevL s0 ++ (T.take (i + 1)).flatMap sevL) ∧ Below w1.heap.size w1 w6) := ⟨by rw [flat_snoc T i (by have := HT.out.2.1; omega), HU.out.1, ← List.append_assoc]; exact hr6, H5.out.2.trans hb6⟩
            clear hr6 hb6 cu
            go_wp2
            go_roundw
            case rel => exact ⟨i + 1, _, rfl, by go_num, by omega, H6.out.1, H6.out.2⟩
            case measure => simp [intOf]; omega
          · obtain rfl : i = n2 := by omega
            have l1 : ¬ (i : Int) < (i : Int) := by omega
            have HE : Hid (sevL s0 ++ (T.take i).flatMap sevL = putB A) := by
              show _ = _
              rw [List.take_of_length_le (by have := HT.out.2.1; omega)]
              unfold putB
              rw [HN.out.2.2.2, HT.out.1]
            go_wp2
            go_ret2
            refine ⟨⟨_, putB A, 0, .inr (.inr ⟨A, H1.out.1, HOk.out.1, HN.out.1, rfl, rfl⟩), rfl, ?_⟩, H1.out.2.2.2.trans (H5.out.2.mono H1.out.2.2.2.size)⟩
            rw [← HE.out]; exact H5.out.1.sl
  · have HN : Hid (∀ A', arcsP Y = some A' → putOk A' = false) := by intro A' h; rw [hno] at h; cases h
    clear hb1 hno
    go_wp2
    go_ret2
    exact six.out HN.out _ _ HB1.out rfl
end Go.Proofs.YtndoibmpnhkmpaaGreatDoor
/-
  Rsa: a digest laid with the identifier of its algorithm.
-/
namespace Go.Proofs.YtndoibmpnhkmpaaGreatDoor
open Go.RowKit
set_option maxRecDepth 20000
theorem Blk.sls {T : TypeId} {w : World} {b : Nat} {vs : List Value} (h : Blk T w b vs) : SlS w (.slice (some ⟨b, 0, none⟩) vs.length vs.length) vs :=
  ⟨_, _, rfl, Nat.le_refl _, .inr ⟨b, 0, rfl, h.lt, fun i hi => by rw [h.cell]; simp [hi]⟩⟩
theorem lists1 {w : World} {T : TypeId} {v : Value} {m : List Int} (h : Sl .u8 w v m) (u : U8s m) : Lists (w.alloc (.cells #[v] T)) (some ⟨w.heap.size, 0, none⟩) 1 1 [v] [m] :=
  ⟨(Blk.new T w [v]).sls, ⟨rfl, fun i hi => by
    obtain rfl : i = 0 := by simp at hi; omega
    exact ⟨below_sl (al1 _) h, u⟩⟩, rfl⟩
theorem lists2 {w : World} {T : TypeId} {v v' : Value} {m m' : List Int} (h : Sl .u8 w v m) (u : U8s m) (h' : Sl .u8 w v' m') (u' : U8s m') : Lists (w.alloc (.cells #[v, v'] T)) (some ⟨w.heap.size, 0, none⟩) 2 2 [v, v'] [m, m'] :=
  ⟨(Blk.new T w [v, v']).sls, ⟨rfl, fun i hi => by
    have : i = 0 ∨ i = 1 := by simp at hi; omega
    rcases this with rfl | rfl
    · exact ⟨below_sl (al1 _) h, u⟩
    · exact ⟨below_sl (al1 _) h', u'⟩⟩, rfl⟩
theorem lists0 (w : World) : Lists w none 0 0 [] [] := ⟨⟨none, 0, rfl, Nat.le_refl _, .inl rfl⟩, ⟨rfl, fun i hi => by simp at hi⟩, rfl⟩
/-- An element of the universal class, of fewer than 128 bytes. -/
def elB (tag : Nat) (d : List Int) : List Int := ((if tag = 16 then 32 else 0) + tag : Int) :: (d.length : Int) :: d
theorem elB_len (tag : Nat) (d : List Int) : (elB tag d).length = d.length + 2 := by simp [elB]
theorem elB_u8 {tag : Nat} {d : List Int} (ht : tag < 31) (hd : U8s d) (hl : d.length < 128) : U8s (elB tag d) := by
  intro x hx
  simp only [elB, List.mem_cons] at hx
  rcases hx with rfl | rfl | hx
  · unfold U8; split <;> omega
  · unfold U8; omega
  · exact hd x hx
set_option maxHeartbeats 1000000 in
theorem put_any {w : World} (tag : Nat) (ht1 : 1 ≤ tag) (ht : tag < 31) (a : Option Addr) (n cp : Nat) (vs : List Value) (ms : List (List Int)) (hL : Lists w a n cp vs ms) (hn : n ≤ 1000) (h128 : ms.flatten.length < 128) :
    Calls Tryz.prog 99 #[.int .i64 tag, .slice a n cp] w fun e w' => ∃ r, e = .returned r ∧ Row .u8 5 w.heap.size w' r (elB tag ms.flatten) ∧ Below w.heap.size w w' := by
  obtain ⟨N, hN⟩ : ∃ N, ms.flatten.length = N := ⟨_, rfl⟩
  have hl : ∃ l : Nat, N / 256 ^ l = 0 ∧ (∀ j, j < l → 0 < N / 256 ^ j) ∧ l ≤ 7 := by
    by_cases h0 : N = 0
    · exact ⟨0, by simp [h0], by omega, by omega⟩
    · refine ⟨1, by omega, fun j hj => ?_, by omega⟩
      obtain rfl : j = 0 := by omega
      simp; omega
  obtain ⟨l, hl0, hl1, hl7⟩ := hl
  have hE : ∀ co : Bool, co = decide (tag = 16) → headB 0 co tag 0 ++ lenB N l ++ ms.flatten = elB tag ms.flatten := fun co hc => by
    unfold headB lenB elB frst
    have h1 : N < 128 := by omega
    rw [hc, hN]
    by_cases h : tag = 16
    · simp [h, h1]
    · simp [h, h1, ht]
  by_cases h16 : tag = 16
  · subst h16
    have HP : Hid (∀ w', w' = w → Calls Tryz.prog _ _ w' _) := fun w' hw => by rw [hw]; exact Put_any 0 16 0 l true a n cp N vs ms hL hN (by omega) (by omega) (by decide) (by decide) (by omega) (by omega) hl0 hl1 hl7
    have HE : Hid (headB 0 true 16 0 ++ lenB N l ++ ms.flatten = elB 16 ms.flatten) := hE true (by decide)
    clear hL hE hl0 hl1 hl7 hN
    go_enter Tryz.func99, Tryz.ntmps99
    go_wp2_with (go_at_call 121; refine (HP.out _ rfl).mono ?_; rintro e w2 ⟨r, rfl, hr, hb⟩; have HR : Hid (Row .u8 5 w.heap.size w2 r (elB 16 ms.flatten) ∧ Below w.heap.size w w2) := ⟨by rw [← HE.out]; exact hr, hb⟩; clear hr hb)
    go_ret
    exact ⟨r, rfl, HR.out⟩
  · have hI : ((tag : Int) == 16) = false := by simp; omega
    have HP : Hid (∀ w', w' = w → Calls Tryz.prog _ _ w' _) := fun w' hw => by rw [hw]; exact Put_any 0 tag 0 l false a n cp N vs ms hL hN (by omega) (by omega) (by unfold headOk; simp; omega) (by simp; omega) (by omega) (by omega) hl0 hl1 hl7
    have HE : Hid (headB 0 false tag 0 ++ lenB N l ++ ms.flatten = elB tag ms.flatten) := hE false (by simp [h16])
    clear hL hE hl0 hl1 hl7 hN
    go_enter Tryz.func99, Tryz.ntmps99
    go_wp2_with (go_at_call 121; refine (HP.out _ rfl).mono ?_; rintro e w2 ⟨r, rfl, hr, hb⟩; have HR : Hid (Row .u8 5 w.heap.size w2 r (elB tag ms.flatten) ∧ Below w.heap.size w w2) := ⟨by rw [← HE.out]; exact hr, hb⟩; clear hr hb)
    go_ret
    exact ⟨r, rfl, HR.out⟩
def Alg4 (alg : Int) : Prop := alg = 1 ∨ alg = 2 ∨ alg = 3 ∨ alg = 4
/-- The identifiers' texts and bytes. -/
def oidY (alg : Int) : List Int :=
  if alg = 1 then [49, 46, 51, 46, 49, 52, 46, 51, 46, 50, 46, 50, 54]
  else [50, 46, 49, 54, 46, 56, 52, 48, 46, 49, 46, 49, 48, 49, 46, 51, 46, 52, 46, 50, 46, 47 + alg]
def oidB (alg : Int) : List Int := if alg = 1 then [43, 14, 3, 2, 26] else [96, 134, 72, 1, 101, 3, 4, 2, alg - 1]
theorem oidR {alg : Int} (ha : Alg4 alg) : PutR (oidY alg) (oidB alg) 0 := by
  rcases ha with rfl | rfl | rfl | rfl
  · exact .inr (.inr ⟨[1, 3, 14, 3, 2, 26], by decide +kernel, by decide +kernel, by decide +kernel, by decide +kernel, rfl⟩)
  · exact .inr (.inr ⟨[2, 16, 840, 1, 101, 3, 4, 2, 1], by decide +kernel, by decide +kernel, by decide +kernel, by decide +kernel, rfl⟩)
  · exact .inr (.inr ⟨[2, 16, 840, 1, 101, 3, 4, 2, 2], by decide +kernel, by decide +kernel, by decide +kernel, by decide +kernel, rfl⟩)
  · exact .inr (.inr ⟨[2, 16, 840, 1, 101, 3, 4, 2, 3], by decide +kernel, by decide +kernel, by decide +kernel, by decide +kernel, rfl⟩)
theorem oidY_u8 {alg : Int} (ha : Alg4 alg) : U8s (oidY alg) ∧ (oidY alg).length ≤ 2000 := by
  rcases ha with rfl | rfl | rfl | rfl <;> exact ⟨by intro x hx; unfold U8; simp [oidY] at hx; omega, by decide⟩
theorem oidB_u8 {alg : Int} (ha : Alg4 alg) : U8s (oidB alg) ∧ (oidB alg).length ≤ 9 := by
  rcases ha with rfl | rfl | rfl | rfl <;> exact ⟨by intro x hx; unfold U8; simp [oidB] at hx; omega, by decide⟩
theorem oid_any {w : World} (alg : Int) (ha : Alg4 alg) : Calls Tryz.prog 98 #[.int .i64 alg] w fun e w' => e = .returned (.string (strOfNums (oidY alg))) ∧ w' = w := by
  rcases ha with rfl | rfl | rfl | rfl
  all_goals (go_enter Tryz.func98, Tryz.ntmps98; go_wp2; go_ret; exact ⟨congrArg (fun s => Ending.returned (Value.string s)) (by decide +kernel), rfl⟩)
/-- A digest with its algorithm's identifier. -/
def namB (alg : Int) (X : List Int) : List Int := elB 16 (elB 16 (elB 6 (oidB alg) ++ elB 5 []) ++ elB 4 X)
theorem namB_len (alg : Int) (X : List Int) : (namB alg X).length = (oidB alg).length + X.length + 10 := by
  simp [namB, elB_len]; omega
end Go.Proofs.YtndoibmpnhkmpaaGreatDoor
/-
  Rsa: a digest named; bytes repeated; Pad.
-/
namespace Go.Proofs.YtndoibmpnhkmpaaGreatDoor
open Go.RowKit
set_option maxRecDepth 20000
theorem Sl.form {k : IntKind} {w : World} {v : Value} {xs : List Int} (h : Sl k w v xs) : ∃ a c, v = .slice a xs.length c := by
  obtain ⟨a, c, rfl, _⟩ := h; exact ⟨a, c, rfl⟩
set_option maxHeartbeats 2000000 in
theorem named_any {w : World} (alg : Int) (ha : Alg4 alg) (v : Value) (X : List Int) (hX : Sl .u8 w v X) (uX : U8s X) (hl : X.length ≤ 64) :
    Calls Tryz.prog 61 #[.int .i64 alg, v] w fun e w' => ∃ r, e = .returned r ∧ Row .u8 5 w.heap.size w' r (namB alg X) ∧ Below w.heap.size w w' := by
  obtain ⟨va, vc, rfl⟩ := hX.form
  have HX : Hid (Sl .u8 w (.slice va X.length vc) X ∧ U8s X ∧ U8s (oidB alg) ∧ (oidB alg).length ≤ 9) := ⟨hX, uX, (oidB_u8 ha).1, (oidB_u8 ha).2⟩
  have HLl : Hid (X.length ≤ 64) := hl
  clear hX uX hl
  go_enter Tryz.func61, Tryz.ntmps61
  go_wp2_with fail
  refine (oid_any alg ha).mono ?_
  rintro e w0 ⟨rfl, rfl⟩
  go_wp2_with fail
  refine (PutOid_any (oidY alg) (oidY_u8 ha).1 (oidY_u8 ha).2).mono ?_
  rintro e w1 ⟨⟨r1, b1, er1, hp, rfl, hs1⟩, hb1⟩
  obtain ⟨rfl, rfl⟩ := hp.uniq (oidR ha)
  obtain ⟨a1, c1, rfl⟩ := hs1.form
  have H1 : Hid (Sl .u8 w1 (.slice a1 (oidB alg).length c1) (oidB alg) ∧ Below w0.heap.size w0 w1) := ⟨hs1, hb1⟩
  clear hs1 hb1 hp
  go_wp2_with fail
  refine (put_any 6 (by decide) (by decide) _ 1 1 _ [oidB alg] (lists1 H1.out.1 HX.out.2.2.1) (by decide) (by have := HX.out.2.2.2; simp; omega)).mono ?_
  rintro e w2 ⟨r2, rfl, hr2, hb2⟩
  have H2 : Hid (Sl .u8 w2 r2 (elB 6 (oidB alg)) ∧ Below w0.heap.size w0 w2) := ⟨by have := hr2.sl; simpa using this, below_via H1.out.2 (below_via (al1 _) hb2 (Nat.le_refl _)) (Nat.le_refl _)⟩
  obtain ⟨a2, c2, hf2⟩ := H2.out.1.form
  subst hf2
  clear hr2 hb2
  go_wp2_with fail
  refine (put_any 5 (by decide) (by decide) none 0 0 [] [] (lists0 _) (by decide) (by simp)).mono ?_
  rintro e w3 ⟨r3, rfl, hr3, hb3⟩
  have H3 : Hid (Sl .u8 w3 (.slice a2 (elB 6 (oidB alg)).length c2) (elB 6 (oidB alg)) ∧ Sl .u8 w3 r3 (elB 5 []) ∧ Below w0.heap.size w0 w3) := ⟨below_sl hb3 H2.out.1, by have := hr3.sl; simpa using this, below_via H2.out.2 hb3 (Nat.le_refl _)⟩
  obtain ⟨a3, c3, hf3⟩ := H3.out.2.1.form
  subst hf3
  clear hr3 hb3
  go_wp2_with fail
  refine (put_any 16 (by decide) (by decide) _ 2 2 _ [elB 6 (oidB alg), elB 5 []] (lists2 H3.out.1 (elB_u8 (by decide) HX.out.2.2.1 (by have := HX.out.2.2.2; omega)) H3.out.2.1 (elB_u8 (by decide) nil_u8 (by decide))) (by decide) (by have := HX.out.2.2.2; simp [elB_len]; omega)).mono ?_
  rintro e w4 ⟨r4, rfl, hr4, hb4⟩
  have H4 : Hid (Sl .u8 w4 r4 (elB 16 (elB 6 (oidB alg) ++ elB 5 [])) ∧ Below w0.heap.size w0 w4) := ⟨by have := hr4.sl; simpa using this, below_via H3.out.2.2 (below_via (al1 _) hb4 (Nat.le_refl _)) (Nat.le_refl _)⟩
  obtain ⟨a4, c4, hf4⟩ := H4.out.1.form
  subst hf4
  clear hr4 hb4
  go_wp2_with fail
  refine (put_any 4 (by decide) (by decide) _ 1 1 _ [X] (lists1 (below_sl H4.out.2 HX.out.1) HX.out.2.1) (by decide) (by have := HLl.out; simp; omega)).mono ?_
  rintro e w5 ⟨r5, rfl, hr5, hb5⟩
  have hB5 : Below w4.heap.size w4 w5 := below_via (al1 _) hb5 (Nat.le_refl _)
  have H5 : Hid (Sl .u8 w5 (.slice a4 (elB 16 (elB 6 (oidB alg) ++ elB 5 [])).length c4) (elB 16 (elB 6 (oidB alg) ++ elB 5 [])) ∧ Sl .u8 w5 r5 (elB 4 X) ∧ Below w0.heap.size w0 w5) := ⟨below_sl hB5 H4.out.1, by have := hr5.sl; simpa using this, below_via H4.out.2 hB5 (Nat.le_refl _)⟩
  obtain ⟨a5, c5, hf5⟩ := H5.out.2.1.form
  subst hf5
  clear hr5 hb5 hB5
  go_wp2_with fail
  refine (put_any 16 (by decide) (by decide) _ 2 2 _ [elB 16 (elB 6 (oidB alg) ++ elB 5 []), elB 4 X] (lists2 H5.out.1 (elB_u8 (by decide) ((elB_u8 (by decide) HX.out.2.2.1 (by have := HX.out.2.2.2; omega)).append (elB_u8 (by decide) nil_u8 (by decide))) (by have := HX.out.2.2.2; simp [elB_len]; omega)) H5.out.2.1 (elB_u8 (by decide) HX.out.2.1 (by have := HLl.out; omega))) (by decide) (by have := HX.out.2.2.2; have := HLl.out; simp [elB_len]; omega)).mono ?_
  rintro e w6 ⟨r6, rfl, hr6, hb6⟩
  have hB6 : Below w5.heap.size w5 w6 := below_via (al1 _) hb6 (Nat.le_refl _)
  have H6 : Hid (Row .u8 5 w0.heap.size w6 r6 (namB alg X) ∧ Below w0.heap.size w0 w6) := ⟨by
    have h := hr6.mono (B' := w0.heap.size) (by have := H5.out.2.2.size; simp; omega)
    unfold namB; simpa using h, below_via H5.out.2.2 hB6 (Nat.le_refl _)⟩
  clear hr6 hb6 hB6
  go_wp2_with fail
  go_ret
  exact ⟨r6, rfl, H6.out⟩
end Go.Proofs.YtndoibmpnhkmpaaGreatDoor
/-
  Digest: the walks of RotateLeft32, RotateLeft64, turns32, moved32, turns64, moved64, choose1, Size, Block.
-/
namespace Go.Proofs.YtndoibmpnhkmpaaGreatDoor.Sh
open Go.RowKit
set_option maxRecDepth 20000

/-- x turned left by s bits. -/
def rot32 (x : Int) (s : Nat) : Int := bits .or .u32 (IntKind.u32.wrap (x * 2 ^ s)) (x / 2 ^ (32 - s))
def rot64 (x : Int) (s : Nat) : Int := bits .or .u64 (IntKind.u64.wrap (x * 2 ^ s)) (x / 2 ^ (64 - s))

set_option maxHeartbeats 1000000 in
theorem RotateLeft32_any {w : World} (x k : Int) (hx : U32 x) (s : Nat) (hs : bits .and .u64 (IntKind.u64.wrap k) 31 = s) (hs1 : s ≤ 31) :
    Calls Tryz.prog 138 #[.int .u32 x, .int .i64 k] w fun e w' => e = .returned (.int .u32 (rot32 x s)) ∧ w = w' := by
  obtain ⟨h1, h2⟩ := hx
  have e1 : (32 : Int) - (s : Int) = ((32 - s : Nat) : Int) := by omega
  obtain ⟨t, ht⟩ : ∃ t, 32 - s = t := ⟨_, rfl⟩
  rw [ht] at e1
  have HR : Hid (rot32 x s = bits .or .u32 (IntKind.u32.wrap (x * 2 ^ s)) (x / 2 ^ t)) := by unfold rot32; rw [ht]; rfl
  have ht1 : t ≤ 32 := by omega
  clear ht
  go_enter Tryz.func138, Tryz.ntmps138
  go_wp2
  go_ret
  exact ⟨by rw [HR.out]; rfl, rfl⟩

theorem neg_and32 (i : Nat) (h : 1 ≤ i) (h' : i ≤ 31) : bits .and .u64 (IntKind.u64.wrap (-(i : Int))) 31 = (32 - i : Nat) := by
  have e : IntKind.u64.wrap (-(i : Int)) = 18446744073709551616 - (i : Int) := by rw [IntKind.wrap_u64]; omega
  have h2 : bits .and .u64 (18446744073709551616 - (i : Int)) 31 = (18446744073709551616 - (i : Int)) % 32 := by
    obtain ⟨z, hz⟩ : ∃ z, 18446744073709551616 - (i : Int) = z := ⟨_, rfl⟩
    have h0 : 0 ≤ z := by omega
    have h1 : z < 18446744073709551616 := by omega
    rw [hz]; go_bits2
  rw [e, h2]; omega
def trn32 (x : Int) (i j k : Nat) : Int := bits .xor .u32 (bits .xor .u32 (rot32 x (32 - i)) (rot32 x (32 - j))) (rot32 x (32 - k))
def mvd32 (x : Int) (i j k : Nat) : Int := bits .xor .u32 (bits .xor .u32 (rot32 x (32 - i)) (rot32 x (32 - j))) (x / 2 ^ k)
set_option maxHeartbeats 1000000 in
theorem turns32_any {w : World} (x : Int) (hx : U32 x) (i j k : Nat) (hi : 1 ≤ i ∧ i ≤ 31) (hj : 1 ≤ j ∧ j ≤ 31) (hk : 1 ≤ k ∧ k ≤ 31) :
    Calls Tryz.prog 141 #[.int .u32 x, .int .i64 i, .int .i64 j, .int .i64 k] w fun e w' => e = .returned (.int .u32 (trn32 x i j k)) ∧ w = w' := by
  have r1 := RotateLeft32_any (w := w) x (-(i : Int)) hx (32 - i) (neg_and32 i hi.1 hi.2) (by omega)
  have r2 := RotateLeft32_any (w := w) x (-(j : Int)) hx (32 - j) (neg_and32 j hj.1 hj.2) (by omega)
  have r3 := RotateLeft32_any (w := w) x (-(k : Int)) hx (32 - k) (neg_and32 k hk.1 hk.2) (by omega)
  obtain ⟨a, ha⟩ : ∃ a, rot32 x (32 - i) = a := ⟨_, rfl⟩
  obtain ⟨b, hb⟩ : ∃ b, rot32 x (32 - j) = b := ⟨_, rfl⟩
  obtain ⟨c, hc⟩ : ∃ c, rot32 x (32 - k) = c := ⟨_, rfl⟩
  have HT : Hid (trn32 x i j k = bits .xor .u32 (bits .xor .u32 a b) c) := by unfold trn32; rw [ha, hb, hc]; rfl
  rw [ha] at r1; rw [hb] at r2; rw [hc] at r3
  clear ha hb hc hx
  go_enter Tryz.func141, Tryz.ntmps141
  go_wp2_with (first
    | (go_at_call 138; replace g1 := g1; replace g2 := g2; refine r3.mono ?_; rintro e w' ⟨rfl, rfl⟩)
    | (go_at_call 138; replace g1 := g1; refine r2.mono ?_; rintro e w' ⟨rfl, rfl⟩; have g2 := trivial)
    | (go_at_call 138; refine r1.mono ?_; rintro e w' ⟨rfl, rfl⟩; have g1 := trivial))
  go_ret
  exact ⟨by rw [HT.out]; rfl, rfl⟩
def sh32 (k : Int) : Nat := (bits .and .u64 (IntKind.u64.wrap k) 31).toNat
theorem sh32_neg (i : Nat) (h : 1 ≤ i) (h' : i ≤ 31) : sh32 (-(i : Int)) = 32 - i := by unfold sh32; rw [neg_and32 i h h']; exact Int.toNat_natCast _
theorem and31 (z : Int) (h0 : 0 ≤ z) (h1 : z < 18446744073709551616) : bits .and .u64 z 31 = z % 32 := by go_bits2
theorem rot32_any {w : World} (x k : Int) (hx : U32 x) :
    Calls Tryz.prog 138 #[.int .u32 x, .int .i64 k] w fun e w' => e = .returned (.int .u32 (rot32 x (sh32 k))) ∧ w' = w := by
  have h := and31 (IntKind.u64.wrap k) (by rw [IntKind.wrap_u64]; omega) (by rw [IntKind.wrap_u64]; omega)
  refine (RotateLeft32_any x k hx (sh32 k) (by unfold sh32; rw [h]; omega) (by unfold sh32; rw [h]; omega)).mono fun _ _ h => ⟨h.1, h.2.symm⟩
set_option maxHeartbeats 1000000 in
theorem moved32_any {w : World} (x : Int) (hx : U32 x) (i j k : Nat) (hi : 1 ≤ i ∧ i ≤ 31) (hj : 1 ≤ j ∧ j ≤ 31) (hk : k ≤ 31) :
    Calls Tryz.prog 149 #[.int .u32 x, .int .i64 i, .int .i64 j, .int .i64 k] w fun e w' => e = .returned (.int .u32 (mvd32 x i j k)) ∧ ∃ q, w' = w.drewN q := by
  have HX : Hid (U32 x) := hx
  have HT : Hid (mvd32 x i j k = bits .xor .u32 (bits .xor .u32 (rot32 x (sh32 (-(i : Int)))) (rot32 x (sh32 (-(j : Int))))) (x / 2 ^ k)) := by
    unfold mvd32; rw [sh32_neg i hi.1 hi.2, sh32_neg j hj.1 hj.2]; rfl
  have hk0 : (0 : Int) ≤ (k : Int) := by omega
  clear hx
  go_enter Tryz.func149, Tryz.ntmps149
  go_upto_region 1 with (fail)
  go_quiet ((go_at_call 138; exact Calls.quiet_of_same (rot32_any _ _ HX.out)))
  go_wp2
  go_ret
  exact ⟨by rw [HT.out]; rfl, _, rfl⟩

set_option maxHeartbeats 1000000 in
theorem RotateLeft64_any {w : World} (x k : Int) (hx : 0 ≤ x ∧ x < 18446744073709551616) (s : Nat) (hs : bits .and .u64 (IntKind.u64.wrap k) 63 = s) (hs1 : s ≤ 63) :
    Calls Tryz.prog 151 #[.int .u64 x, .int .i64 k] w fun e w' => e = .returned (.int .u64 (rot64 x s)) ∧ w = w' := by
  obtain ⟨h1, h2⟩ := hx
  have e1 : (64 : Int) - (s : Int) = ((64 - s : Nat) : Int) := by omega
  obtain ⟨t, ht⟩ : ∃ t, 64 - s = t := ⟨_, rfl⟩
  rw [ht] at e1
  have HR : Hid (rot64 x s = bits .or .u64 (IntKind.u64.wrap (x * 2 ^ s)) (x / 2 ^ t)) := by unfold rot64; rw [ht]; rfl
  have ht1 : t ≤ 64 := by omega
  clear ht
  go_enter Tryz.func151, Tryz.ntmps151
  go_wp2
  go_ret
  exact ⟨by rw [HR.out]; rfl, rfl⟩

theorem neg_and64 (i : Nat) (h : 1 ≤ i) (h' : i ≤ 63) : bits .and .u64 (IntKind.u64.wrap (-(i : Int))) 63 = (64 - i : Nat) := by
  have e : IntKind.u64.wrap (-(i : Int)) = 18446744073709551616 - (i : Int) := by rw [IntKind.wrap_u64]; omega
  have h2 : bits .and .u64 (18446744073709551616 - (i : Int)) 63 = (18446744073709551616 - (i : Int)) % 64 := by
    obtain ⟨z, hz⟩ : ∃ z, 18446744073709551616 - (i : Int) = z := ⟨_, rfl⟩
    have h0 : 0 ≤ z := by omega
    have h1 : z < 18446744073709551616 := by omega
    rw [hz]; go_bits2
  rw [e, h2]; omega
def trn64 (x : Int) (i j k : Nat) : Int := bits .xor .u64 (bits .xor .u64 (rot64 x (64 - i)) (rot64 x (64 - j))) (rot64 x (64 - k))
def mvd64 (x : Int) (i j k : Nat) : Int := bits .xor .u64 (bits .xor .u64 (rot64 x (64 - i)) (rot64 x (64 - j))) (x / 2 ^ k)
set_option maxHeartbeats 1000000 in
theorem turns64_any {w : World} (x : Int) (hx : 0 ≤ x ∧ x < 18446744073709551616) (i j k : Nat) (hi : 1 ≤ i ∧ i ≤ 63) (hj : 1 ≤ j ∧ j ≤ 63) (hk : 1 ≤ k ∧ k ≤ 63) :
    Calls Tryz.prog 143 #[.int .u64 x, .int .i64 i, .int .i64 j, .int .i64 k] w fun e w' => e = .returned (.int .u64 (trn64 x i j k)) ∧ w = w' := by
  have r1 := RotateLeft64_any (w := w) x (-(i : Int)) hx (64 - i) (neg_and64 i hi.1 hi.2) (by omega)
  have r2 := RotateLeft64_any (w := w) x (-(j : Int)) hx (64 - j) (neg_and64 j hj.1 hj.2) (by omega)
  have r3 := RotateLeft64_any (w := w) x (-(k : Int)) hx (64 - k) (neg_and64 k hk.1 hk.2) (by omega)
  obtain ⟨a, ha⟩ : ∃ a, rot64 x (64 - i) = a := ⟨_, rfl⟩
  obtain ⟨b, hb⟩ : ∃ b, rot64 x (64 - j) = b := ⟨_, rfl⟩
  obtain ⟨c, hc⟩ : ∃ c, rot64 x (64 - k) = c := ⟨_, rfl⟩
  have HT : Hid (trn64 x i j k = bits .xor .u64 (bits .xor .u64 a b) c) := by unfold trn64; rw [ha, hb, hc]; rfl
  rw [ha] at r1; rw [hb] at r2; rw [hc] at r3
  clear ha hb hc hx
  go_enter Tryz.func143, Tryz.ntmps143
  go_wp2_with (first
    | (go_at_call 151; replace g1 := g1; replace g2 := g2; refine r3.mono ?_; rintro e w' ⟨rfl, rfl⟩)
    | (go_at_call 151; replace g1 := g1; refine r2.mono ?_; rintro e w' ⟨rfl, rfl⟩; have g2 := trivial)
    | (go_at_call 151; refine r1.mono ?_; rintro e w' ⟨rfl, rfl⟩; have g1 := trivial))
  go_ret
  exact ⟨by rw [HT.out]; rfl, rfl⟩
def sh64 (k : Int) : Nat := (bits .and .u64 (IntKind.u64.wrap k) 63).toNat
theorem sh64_neg (i : Nat) (h : 1 ≤ i) (h' : i ≤ 63) : sh64 (-(i : Int)) = 64 - i := by unfold sh64; rw [neg_and64 i h h']; exact Int.toNat_natCast _
theorem and63 (z : Int) (h0 : 0 ≤ z) (h1 : z < 18446744073709551616) : bits .and .u64 z 63 = z % 64 := by go_bits2
theorem rot64_any {w : World} (x k : Int) (hx : 0 ≤ x ∧ x < 18446744073709551616) :
    Calls Tryz.prog 151 #[.int .u64 x, .int .i64 k] w fun e w' => e = .returned (.int .u64 (rot64 x (sh64 k))) ∧ w' = w := by
  have h := and63 (IntKind.u64.wrap k) (by rw [IntKind.wrap_u64]; omega) (by rw [IntKind.wrap_u64]; omega)
  refine (RotateLeft64_any x k hx (sh64 k) (by unfold sh64; rw [h]; omega) (by unfold sh64; rw [h]; omega)).mono fun _ _ h => ⟨h.1, h.2.symm⟩
set_option maxHeartbeats 1000000 in
theorem moved64_any {w : World} (x : Int) (hx : 0 ≤ x ∧ x < 18446744073709551616) (i j k : Nat) (hi : 1 ≤ i ∧ i ≤ 63) (hj : 1 ≤ j ∧ j ≤ 63) (hk : k ≤ 63) :
    Calls Tryz.prog 150 #[.int .u64 x, .int .i64 i, .int .i64 j, .int .i64 k] w fun e w' => e = .returned (.int .u64 (mvd64 x i j k)) ∧ ∃ q, w' = w.drewN q := by
  have HX : Hid (0 ≤ x ∧ x < 18446744073709551616) := hx
  have HT : Hid (mvd64 x i j k = bits .xor .u64 (bits .xor .u64 (rot64 x (sh64 (-(i : Int)))) (rot64 x (sh64 (-(j : Int))))) (x / 2 ^ k)) := by
    unfold mvd64; rw [sh64_neg i hi.1 hi.2, sh64_neg j hj.1 hj.2]; rfl
  have hk0 : (0 : Int) ≤ (k : Int) := by omega
  clear hx
  go_enter Tryz.func150, Tryz.ntmps150
  go_upto_region 1 with (fail)
  go_quiet ((go_at_call 151; exact Calls.quiet_of_same (rot64_any _ _ HX.out)))
  go_wp2
  go_ret
  exact ⟨by rw [HT.out]; rfl, _, rfl⟩
end Go.Proofs.YtndoibmpnhkmpaaGreatDoor.Sh
