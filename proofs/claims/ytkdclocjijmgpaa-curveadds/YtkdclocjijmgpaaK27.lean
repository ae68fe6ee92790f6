/-
  Curves: the reference's triples and points: lifted, flattened (pure).
-/
import Derived.Test.YtkdclocjijmgpaaK26
namespace Go.Proofs.Ytkdclocjijmgpaa.Gl
variable {p : Nat} [NeZero p] {c : Ec p}
theorem triN_rq (hb : c.b ≠ 0) (h1p : 1 < p) {P : Pt p} (hP : c.On P) : Rq (triN (enc P).1 (enc P).2) P ∧ Lt3 p (triN (enc P).1 (enc P).2) := by
  have hl := enc_lt P
  match P, hP, hl with
  | none, _, _ => exact ⟨rfl, p_pos, p_pos, p_pos⟩
  | some (x, y), hP, hl =>
    have hn : ¬ ((enc (some (x, y))).1 = 0 ∧ (enc (some (x, y))).2 = 0) := fun h => by
      have := (enc_far hb (P := some (x, y)) hP).1 h
      cases this
    unfold triN
    rw [if_neg hn]
    refine ⟨⟨Nat.one_ne_zero, ?_, ?_⟩, hl.1, hl.2, h1p⟩
    · show F p x.val = x * F p 1
      rw [F_self, F_1]; grobner
    · show F p y.val = y * F p 1
      rw [F_self, F_1]; grobner
theorem qpt_enc {A B Z : Nat} {P : Pt p} (h : Rq (A, B, Z) P) {X Y : Nat} (hj : qpt p (A, B, Z) X Y) : enc P = (X, Y) := by
  have h0 := p_pos (p := p)
  rcases hj with ⟨hz, rfl, rfl⟩ | ⟨hz, g, hg, hi, rfl, rfl⟩
  · match P, h with
    | none, _ => rfl
    | some (x, y), h => exact absurd hz h.1
  · match P, h with
    | none, h => exact absurd h hz
    | some (x, y), h =>
      obtain ⟨_, hA, hB⟩ := h
      simp only [] at hA hB hi ⊢
      have hi' : F p Z * F p g = 1 := by rw [← F_mul, ← F_mod, hi, F_mod, F_1]
      show (x.val, y.val) = _
      refine Prod.ext ?_ ?_
      · refine F_inj (p := p) x.isLt (fml_lt h0) ?_
        rw [F_self, F_fml, hA]
        generalize F p Z = z at *
        generalize F p g = i at *
        have e : x * z * i = x * (z * i) := by clear hA hB hi'; grobner
        rw [e, hi']; clear hA hB hi' e; grobner
      · refine F_inj (p := p) y.isLt (fml_lt h0) ?_
        rw [F_self, F_fml, hB]
        generalize F p Z = z at *
        generalize F p g = i at *
        have e : y * z * i = y * (z * i) := by clear hA hB hi'; grobner
        rw [e, hi']; clear hA hB hi' e; grobner
theorem lft_triN {X Y : List Int} (uX : U32s X) (uY : U32s Y) : lft X Y = triN (val X).toNat (val Y).toNat := by
  have h1 := val_nonneg uX
  have h2 := val_nonneg uY
  unfold lft triN farB
  by_cases h : val X = 0 ∧ val Y = 0
  · rw [if_pos (by simp [h.1, h.2]), if_pos ⟨by rw [h.1]; rfl, by rw [h.2]; rfl⟩]
  · rw [if_neg (by simpa using h), if_neg (fun g => h ⟨by omega, by omega⟩)]
end Go.Proofs.Ytkdclocjijmgpaa.Gl
/-
  Curves: the reference's times. (wip/mkh29.py)
-/
namespace Go.Proofs.Ytkdclocjijmgpaa
open Go.RowKit
set_option maxRecDepth 20000
theorem rsm_lt {p x1 y1 z1 x2 y2 z2 : Nat} (h : 0 < p) (l1 : x1 < p) (l2 : y1 < p) (l3 : z1 < p) (m1 : x2 < p) (m2 : y2 < p) (m3 : z2 < p) : (rsm p x1 y1 z1 x2 y2 z2).1 < p ∧ (rsm p x1 y1 z1 x2 y2 z2).2.1 < p ∧ (rsm p x1 y1 z1 x2 y2 z2).2.2 < p := by
  unfold rsm
  split
  · exact ⟨m1, m2, m3⟩
  split
  · exact ⟨l1, l2, l3⟩
  dsimp only
  split
  · split
    · exact rtw_lt h
    · exact ⟨h, h, h⟩
  · exact ⟨fml_lt h, fsb_lt h, fml_lt h⟩
end Go.Proofs.Ytkdclocjijmgpaa
/-
  Primes: Fermat, Pocklington (pure).
-/
namespace Go.Proofs.Ytkdclocjijmgpaa.Pm
/-- A prime number. -/
def Pr (p : Nat) : Prop := 2 ≤ p ∧ ∀ m, m ∣ p → m = 1 ∨ m = p
theorem Pr.cop {p k : Nat} (hp : Pr p) (h : ¬ p ∣ k) : Nat.Coprime p k := by
  rcases hp.2 _ (Nat.gcd_dvd_left p k) with h1 | h1
  · exact h1
  · exact absurd (h1 ▸ Nat.gcd_dvd_right p k) h
theorem Pr.mul {p a b : Nat} (hp : Pr p) (h : p ∣ a * b) : p ∣ a ∨ p ∣ b := by
  by_cases ha : p ∣ a
  · exact .inl ha
  · exact .inr ((hp.cop ha).dvd_of_dvd_mul_left h)
/-- Every number above 1 has a prime divisor. -/
theorem hasPr (n : Nat) (h : 2 ≤ n) : ∃ p, Pr p ∧ p ∣ n := by
  induction n using Nat.strongRecOn with
  | ind n ih =>
    by_cases hp : Pr n
    · exact ⟨n, hp, Nat.dvd_refl n⟩
    · have : ∃ m, m ∣ n ∧ m ≠ 1 ∧ m ≠ n := by
        refine Classical.byContradiction fun hc => hp ⟨h, fun m hm => ?_⟩
        by_cases h1 : m = 1
        · exact .inl h1
        · by_cases h2 : m = n
          · exact .inr h2
          · exact absurd ⟨m, hm, h1, h2⟩ hc
      obtain ⟨m, hm, h1, h2⟩ := this
      have hle := Nat.le_of_dvd (by omega) hm
      have h0 : m ≠ 0 := by rintro rfl; have := Nat.eq_zero_of_zero_dvd hm; omega
      obtain ⟨p, hp, hd⟩ := ih m (by omega) (by omega)
      exact ⟨p, hp, Nat.dvd_trans hd hm⟩
/-- Binomials. -/
def C : Nat → Nat → Nat
  | _, 0 => 1
  | 0, _ + 1 => 0
  | n + 1, k + 1 => C n k + C n (k + 1)
theorem C_zero (n : Nat) : C n 0 = 1 := by cases n <;> rfl
theorem C_succ (n k : Nat) : C (n + 1) (k + 1) = C n k + C n (k + 1) := rfl
theorem C_big (n k : Nat) (h : n < k) : C n k = 0 := by
  induction n generalizing k with
  | zero => obtain ⟨k, rfl⟩ : ∃ j, k = j + 1 := ⟨k - 1, by omega⟩; rfl
  | succ n ih => obtain ⟨k, rfl⟩ : ∃ j, k = j + 1 := ⟨k - 1, by omega⟩; rw [C_succ, ih k (by omega), ih (k + 1) (by omega)]
theorem C_self (n : Nat) : C n n = 1 := by
  induction n with
  | zero => rfl
  | succ n ih => rw [C_succ, ih, C_big n (n + 1) (by omega)]
theorem C_abs (n k : Nat) : (k + 1) * C (n + 1) (k + 1) = (n + 1) * C n k := by
  induction n generalizing k with
  | zero => cases k with
    | zero => rfl
    | succ k => rw [C_big _ _ (by omega), C_big _ _ (by omega)]; simp
  | succ n ih =>
    cases k with
    | zero =>
      have h := ih 0
      rw [C_zero] at h
      rw [C_succ, C_zero, Nat.mul_add, h]
      omega
    | succ k =>
      have h1 := ih k
      have h2 := ih (k + 1)
      rw [C_succ (n + 1) (k + 1), C_succ n k]
      rw [C_succ n k] at h1
      rw [Nat.mul_add, h2]
      have e : (k + 1 + 1) * (C n k + C n (k + 1)) = (k + 1) * (C n k + C n (k + 1)) + (C n k + C n (k + 1)) := by rw [Nat.succ_mul]
      rw [e, h1]
      simp only [Nat.mul_add, Nat.add_mul]
      omega
theorem C_prime {p k : Nat} (hp : Pr p) (h0 : 0 < k) (h1 : k < p) : p ∣ C p k := by
  obtain ⟨k, rfl⟩ : ∃ j, k = j + 1 := ⟨k - 1, by omega⟩
  obtain ⟨n, rfl⟩ : ∃ j, p = j + 1 := ⟨p - 1, by omega⟩
  have h := C_abs n k
  have hd : n + 1 ∣ (k + 1) * C (n + 1) (k + 1) := ⟨_, h⟩
  rcases hp.mul hd with h | h
  · exact absurd (Nat.le_of_dvd (by omega) h) (by omega)
  · exact h
/-- The terms below j of (a + 1) ^ n. -/
def Sm (n a : Nat) : Nat → Nat
  | 0 => 0
  | j + 1 => Sm n a j + C n j * a ^ j
theorem Sm_succ (n a j : Nat) : Sm (n + 1) a (j + 1) = a * Sm n a j + Sm n a (j + 1) := by
  induction j with
  | zero => simp [Sm, C_zero]
  | succ j ih =>
    have e : Sm (n + 1) a (j + 2) = Sm (n + 1) a (j + 1) + C (n + 1) (j + 1) * a ^ (j + 1) := rfl
    have e2 : Sm n a (j + 2) = Sm n a (j + 1) + C n (j + 1) * a ^ (j + 1) := rfl
    have e3 : Sm n a (j + 1) = Sm n a j + C n j * a ^ j := rfl
    have e4 : a * Sm n a (j + 1) = a * Sm n a j + a * (C n j * a ^ j) := by rw [e3, Nat.mul_add]
    have e5 : a * (C n j * a ^ j) = C n j * a ^ (j + 1) := by rw [Nat.pow_succ, Nat.mul_comm a, Nat.mul_assoc]
    rw [e, ih, e2, e4, e5, C_succ, Nat.add_mul]
    omega
theorem binom (n a : Nat) : (a + 1) ^ n = Sm n a (n + 1) := by
  induction n with
  | zero => simp [Sm, C]
  | succ n ih =>
    have e : Sm n a (n + 2) = Sm n a (n + 1) := by
      show Sm n a (n + 1) + C n (n + 1) * a ^ (n + 1) = _
      rw [C_big n (n + 1) (by omega)]; simp
    rw [Sm_succ, e, ← ih, Nat.pow_succ, Nat.mul_add, Nat.mul_one, Nat.mul_comm]
theorem Sm_mod {p : Nat} (hp : Pr p) (a j : Nat) (h0 : 0 < j) (h : j ≤ p) : Sm p a j % p = 1 % p := by
  induction j with
  | zero => omega
  | succ j ih =>
    by_cases hj : j = 0
    · subst hj; simp [Sm, C_zero]
    · show (Sm p a j + C p j * a ^ j) % p = _
      have hd : p ∣ C p j * a ^ j := Nat.dvd_trans (C_prime hp (by omega) (by omega)) (Nat.dvd_mul_right _ _)
      rw [Nat.add_mod, Nat.mod_eq_zero_of_dvd hd, Nat.add_zero, Nat.mod_mod, ih (by omega) (by omega)]
theorem dvd_of_mod {a b n : Nat} (h : a % n = b % n) : n ∣ a - b := Nat.dvd_of_mod_eq_zero (Nat.sub_mod_eq_zero_of_mod_eq h)
theorem mod_of_dvd {a b n : Nat} (hb : b ≤ a) (h : n ∣ a - b) : a % n = b % n := by
  obtain ⟨c, hc⟩ := h
  have : a = b + n * c := by omega
  rw [this, Nat.add_mul_mod_self_left]
/-- Fermat's little theorem. -/
theorem fermat {p : Nat} (hp : Pr p) (a : Nat) : a ^ p % p = a % p := by
  induction a with
  | zero => have := hp.1; rw [Nat.zero_pow (by omega)]
  | succ a ih =>
    rw [binom]
    show (Sm p a p + C p p * a ^ p) % p = _
    rw [C_self, Nat.one_mul, Nat.add_mod, Sm_mod hp a p (by have := hp.1; omega) (Nat.le_refl _), ih, ← Nat.add_mod, Nat.add_comm]
theorem fermat1 {p : Nat} (hp : Pr p) (a : Nat) (ha : ¬ p ∣ a) : a ^ (p - 1) % p = 1 % p := by
  have h := fermat hp a
  obtain ⟨n, rfl⟩ : ∃ j, p = j + 1 := ⟨p - 1, by have := hp.1; omega⟩
  show a ^ n % (n + 1) = _
  have hc := hp.cop ha
  by_cases h1 : 1 ≤ a ^ n
  · have hd : n + 1 ∣ a * (a ^ n - 1) := by
      have e : a * (a ^ n - 1) = a ^ (n + 1) - a := by rw [Nat.mul_sub, Nat.mul_one, Nat.pow_succ, Nat.mul_comm]
      rw [e]
      exact dvd_of_mod h
    have := hc.dvd_of_dvd_mul_left hd
    exact mod_of_dvd h1 this
  · have : a ^ n = 0 := by omega
    have ha0 : a = 0 := by
      by_cases h0 : a = 0
      · exact h0
      · have := Nat.pow_pos (n := n) (Nat.pos_of_ne_zero h0); omega
    subst ha0
    exact absurd (Nat.dvd_zero _) ha
/-- a ^ k leaves 1. -/
def U1 (r a k : Nat) : Prop := a ^ k % r = 1 % r
theorem U1.add {r a k l : Nat} (h : U1 r a k) (g : U1 r a l) : U1 r a (k + l) := by
  unfold U1 at *
  rw [Nat.pow_add, Nat.mul_mod, h, g, ← Nat.mul_mod]
theorem U1.mul {r a k : Nat} (h : U1 r a k) (m : Nat) : U1 r a (k * m) := by
  induction m with
  | zero => unfold U1; simp
  | succ m ih => rw [Nat.mul_succ]; exact ih.add h
theorem U1.sub {r a k l : Nat} (h : U1 r a (k + l)) (g : U1 r a k) : U1 r a l := by
  unfold U1 at *
  rw [Nat.pow_add, Nat.mul_mod, g, ← Nat.mul_mod, Nat.one_mul] at h
  exact h
/-- The least exponent divides every one. -/
theorem ord_dvd {r a t k : Nat} (h0 : 0 < t) (ht : U1 r a t) (hm : ∀ j, 0 < j → j < t → ¬ U1 r a j) (hk : U1 r a k) : t ∣ k := by
  have h := Nat.div_add_mod k t
  rw [← h] at hk
  have := hk.sub (ht.mul _)
  by_cases hz : k % t = 0
  · exact Nat.dvd_of_mod_eq_zero hz
  · exact absurd this (hm _ (by omega) (Nat.mod_lt _ h0))
theorem least {P : Nat → Prop} (n : Nat) (h : P n) : ∃ t, P t ∧ ∀ j, j < t → ¬ P j := by
  induction n using Nat.strongRecOn with
  | ind n ih =>
    by_cases hc : ∃ j, j < n ∧ P j
    · obtain ⟨j, hj, hp⟩ := hc; exact ih j hj hp
    · exact ⟨n, h, fun j hj hp => hc ⟨j, hj, hp⟩⟩
theorem Pr.copow {q s : Nat} (hq : Pr q) (h : ¬ q ∣ s) (e : Nat) : Nat.Coprime (q ^ e) s := Nat.Coprime.pow_left e (hq.cop h)
theorem pow_in {t n q e : Nat} (hq : Pr q) (htn : t ∣ n) (hne : ¬ t ∣ n / q) (he : q ^ e ∣ n) : q ^ e ∣ t := by
  obtain ⟨s, rfl⟩ := htn
  have hs : ¬ q ∣ s := by
    rintro ⟨c, rfl⟩
    apply hne
    refine ⟨c, ?_⟩
    rw [Nat.mul_left_comm, Nat.mul_div_cancel_left _ (by have := hq.1; omega)]
  exact (hq.copow hs e).dvd_of_dvd_mul_right he
/-- Pocklington: what a witness says of each prime divisor. -/
theorem pock1 {N r a q e : Nat} (hr : Pr r) (hrN : r ∣ N) (hN : 2 ≤ N) (hq : Pr q) (he : q ^ e ∣ N - 1) (h1 : a ^ (N - 1) % N = 1 % N) (h2 : Nat.gcd (a ^ ((N - 1) / q) - 1) N = 1) : q ^ e ∣ r - 1 := by
  have hmod : ∀ k, a ^ k % N = 1 % N → U1 r a k := by
    intro k hk
    unfold U1
    rw [← Nat.mod_mod_of_dvd _ hrN, hk, Nat.mod_mod_of_dvd _ hrN]
  have hu := hmod _ h1
  have hna : ¬ r ∣ a := by
    intro hd
    unfold U1 at hu
    have h0 : a ^ (N - 1) % r = 0 := Nat.mod_eq_zero_of_dvd (Nat.dvd_trans hd (by
      obtain ⟨k, hk⟩ : ∃ k, N - 1 = k + 1 := ⟨N - 2, by omega⟩
      rw [hk, Nat.pow_succ]; exact Nat.dvd_mul_left _ _))
    rw [h0, Nat.mod_eq_of_lt (by have := hr.1; omega)] at hu
    omega
  have hf : U1 r a (r - 1) := fermat1 hr a hna
  obtain ⟨t, ⟨ht0, ht⟩, hl⟩ := least (P := fun t => 0 < t ∧ U1 r a t) (r - 1) ⟨by have := hr.1; omega, hf⟩
  have hm : ∀ j, 0 < j → j < t → ¬ U1 r a j := fun j h0 hj hu => hl j hj ⟨h0, hu⟩
  have d1 := ord_dvd ht0 ht hm hu
  have d2 := ord_dvd ht0 ht hm hf
  have hne : ¬ t ∣ (N - 1) / q := by
    rintro ⟨c, hc⟩
    have hU : U1 r a ((N - 1) / q) := by rw [hc]; exact ht.mul c
    have hd : r ∣ a ^ ((N - 1) / q) - 1 := dvd_of_mod hU
    have := Nat.dvd_gcd hd hrN
    rw [h2] at this
    have := Nat.le_of_dvd (by omega) this
    have := hr.1
    omega
  exact Nat.dvd_trans (pow_in hq d1 hne he) d2
/-- Where each prime divisor leaves 1 by F, each divisor does. -/
theorem all_one {N F : Nat} (hF : ∀ r, Pr r → r ∣ N → F ∣ r - 1) (m : Nat) (hm : m ∣ N) : F ∣ m - 1 := by
  induction m using Nat.strongRecOn with
  | ind m ih =>
    by_cases h2 : 2 ≤ m
    · obtain ⟨p, hp, hd⟩ := hasPr m h2
      obtain ⟨c, rfl⟩ := hd
      have hp2 := hp.1
      have hc0 : 0 < c := by
        rcases Nat.eq_zero_or_pos c with h | h
        · subst h; simp at h2
        · exact h
      have hlt : c < p * c := by
        have : 2 * c ≤ p * c := Nat.mul_le_mul_right c hp2
        omega
      obtain ⟨x, hx⟩ := ih c hlt (Nat.dvd_trans (Nat.dvd_mul_left _ _) hm)
      obtain ⟨y, hy⟩ := hF p hp (Nat.dvd_trans (Nat.dvd_mul_right _ _) hm)
      have e1 : c = F * x + 1 := by omega
      have e2 : p = F * y + 1 := by omega
      refine ⟨y * c + x, ?_⟩
      rw [e2, Nat.add_mul, Nat.one_mul, Nat.mul_add, Nat.mul_assoc]
      omega
    · have : m - 1 = 0 := by omega
      rw [this]; exact Nat.dvd_zero _
theorem two_of_not {N : Nat} (hN : 2 ≤ N) (h : ¬ Pr N) : ∃ m k, N = m * k ∧ 2 ≤ m ∧ 2 ≤ k := by
  refine Classical.byContradiction fun hc => h ⟨hN, fun m hm => ?_⟩
  obtain ⟨k, rfl⟩ := hm
  by_cases h1 : m = 1
  · exact .inl h1
  · by_cases h2 : k = 1
    · right; rw [h2, Nat.mul_one]
    · exfalso
      apply hc
      refine ⟨m, k, rfl, ?_, ?_⟩
      · rcases Nat.eq_zero_or_pos m with h | h
        · subst h; simp at hN
        · omega
      · rcases Nat.eq_zero_or_pos k with h | h
        · subst h; simp at hN
        · omega
theorem pock2 {N F : Nat} (hN : 2 ≤ N) (hF : ∀ r, Pr r → r ∣ N → F ∣ r - 1) (h : N < (F + 1) * (F + 1)) : Pr N := by
  refine Classical.byContradiction fun hc => ?_
  obtain ⟨m, k, rfl, h1, h2⟩ := two_of_not hN hc
  have d1 := Nat.le_of_dvd (by omega) (all_one hF m (Nat.dvd_mul_right _ _))
  have d2 := Nat.le_of_dvd (by omega) (all_one hF k (Nat.dvd_mul_left _ _))
  exact absurd (Nat.mul_le_mul (show F + 1 ≤ m by omega) (show F + 1 ≤ k by omega)) (by omega)
/-- A third of the digits suffices. -/
theorem pock3 {N F c1 c2 s : Nat} (hN : 2 ≤ N) (hF : ∀ r, Pr r → r ∣ N → F ∣ r - 1) (h3 : N ≤ F * F * F) (hd : N = (c2 * F + c1) * F + 1) (hc : 0 < c1) (hcF : c1 < F) (hs : c1 * c1 < 4 * c2 ∨ (s * s + 4 * c2 < c1 * c1 ∧ c1 * c1 < (s + 1) * (s + 1) + 4 * c2)) : Pr N := by
  refine Classical.byContradiction fun hcn => ?_
  obtain ⟨m, k, hmk, h1, h2⟩ := two_of_not hN hcn
  obtain ⟨a, ha⟩ := all_one hF m (by rw [hmk]; exact Nat.dvd_mul_right _ _)
  obtain ⟨b, hb⟩ := all_one hF k (by rw [hmk]; exact Nat.dvd_mul_left _ _)
  have em : m = F * a + 1 := by omega
  have ek : k = F * b + 1 := by omega
  have a0 : 0 < a := by rcases Nat.eq_zero_or_pos a with h | h; (subst h; simp at em; omega); exact h
  have b0 : 0 < b := by rcases Nat.eq_zero_or_pos b with h | h; (subst h; simp at ek; omega); exact h
  have F0 : 0 < F := by omega
  have eN : N = (a * b * F + (a + b)) * F + 1 := by
    rw [hmk, em, ek]
    simp only [Nat.mul_add, Nat.add_mul, Nat.mul_one, Nat.one_mul]
    have : F * a * (F * b) = a * b * F * F := by simp only [Nat.mul_comm, Nat.mul_left_comm]
    rw [this, Nat.mul_comm a F, Nat.mul_comm b F]
    omega
  have e1 : c2 * F + c1 = a * b * F + (a + b) := by
    have : (c2 * F + c1) * F = (a * b * F + (a + b)) * F := by omega
    exact Nat.eq_of_mul_eq_mul_right F0 this
  have hab : a * b < F := by
    rcases Nat.lt_or_ge (a * b) F with h | h
    · exact h
    · have q1 : F * F * F ≤ a * b * F * F := by
        rw [Nat.mul_assoc (a * b), Nat.mul_assoc F]
        exact Nat.mul_le_mul_right _ h
      have q2 : (a * b * F + (a + b)) * F = a * b * F * F + (a + b) * F := Nat.add_mul _ _ _
      have q3 : 0 < (a + b) * F := Nat.mul_pos (by omega) F0
      omega
  have hle : a + b ≤ a * b + 1 := by
    obtain ⟨a', rfl⟩ : ∃ x, a = x + 1 := ⟨a - 1, by omega⟩
    obtain ⟨b', rfl⟩ : ∃ x, b = x + 1 := ⟨b - 1, by omega⟩
    have : (a' + 1) * (b' + 1) = a' * b' + a' + b' + 1 := by rw [Nat.add_mul, Nat.mul_add]; omega
    have := Nat.zero_le (a' * b')
    omega
  have hlt : a + b < F := by
    rcases Nat.lt_or_ge (a + b) F with h | h
    · exact h
    · exfalso
      have hE : a + b = F := by omega
      rw [hE] at e1
      have : (c2 * F + c1) % F = (a * b * F + F) % F := by rw [e1]
      rw [Nat.mul_comm c2, Nat.mul_add_mod, Nat.add_mod_right, Nat.mul_comm (a * b), Nat.mul_mod_right, Nat.mod_eq_of_lt hcF] at this
      omega
  have r1 : c1 = a + b := by
    have : (c2 * F + c1) % F = (a * b * F + (a + b)) % F := by rw [e1]
    rw [Nat.mul_comm c2, Nat.mul_comm (a * b), Nat.mul_add_mod, Nat.mul_add_mod, Nat.mod_eq_of_lt hcF, Nat.mod_eq_of_lt hlt] at this
    exact this
  have r2 : c2 = a * b := by
    rw [r1] at e1
    exact Nat.eq_of_mul_eq_mul_right F0 (by omega)
  rw [r1, r2] at hs
  have sq : ∀ x y : Nat, x ≤ y → (x + y) * (x + y) = (y - x) * (y - x) + 4 * (x * y) := by
    intro x y h
    obtain ⟨d, rfl⟩ : ∃ d, y = x + d := ⟨y - x, by omega⟩
    have : x + d - x = d := by omega
    rw [this]
    simp only [Nat.mul_add, Nat.add_mul, Nat.mul_comm d x]
    omega
  obtain ⟨d, hdd⟩ : ∃ d, (a + b) * (a + b) = d * d + 4 * (a * b) := by
    rcases Nat.le_total a b with h | h
    · exact ⟨_, sq a b h⟩
    · exact ⟨a - b, by rw [Nat.add_comm a b, Nat.mul_comm a b]; exact sq b a h⟩
  rw [hdd] at hs
  rcases hs with h | ⟨h, g⟩
  · omega
  · have u1 : s * s < d * d := by omega
    have u2 : d * d < (s + 1) * (s + 1) := by omega
    have v1 : s < d := by
      rcases Nat.lt_or_ge s d with h | h
      · exact h
      · exact absurd (Nat.mul_le_mul h h) (by omega)
    have v2 : d < s + 1 := by
      rcases Nat.lt_or_ge d (s + 1) with h | h
      · exact h
      · exact absurd (Nat.mul_le_mul h h) (by omega)
    omega
end Go.Proofs.Ytkdclocjijmgpaa.Pm
/-
  Primes: powers modulo a number, trial division, a witness (pure).
-/
namespace Go.Proofs.Ytkdclocjijmgpaa.Pm
def sqm (N x : Nat) : Nat := x * x % N
/-- a ^ k modulo N, k below 2 ^ f. -/
def pw (N a : Nat) : Nat → Nat → Nat
  | 0, _ => 1 % N
  | f + 1, k => if k % 2 = 0 then sqm N (pw N a f (k / 2)) else sqm N (pw N a f (k / 2)) * a % N
theorem pw_eq (N a f k : Nat) (h : k < 2 ^ f) : pw N a f k = a ^ k % N := by
  induction f generalizing k with
  | zero => have : k = 0 := by simpa using h
            subst this; simp [pw]
  | succ f ih =>
    have e := ih (k / 2) (by rw [Nat.pow_succ] at h; omega)
    unfold pw
    rw [e]
    unfold sqm
    split
    · rename_i h0
      have : k = k / 2 + k / 2 := by omega
      rw [← Nat.mul_mod, ← Nat.pow_add, ← this]
    · rename_i h0
      have : k = k / 2 + k / 2 + 1 := by omega
      rw [← Nat.mul_mod, Nat.mod_mul_mod, ← Nat.pow_add, ← Nat.pow_succ]
      show a ^ (k / 2 + k / 2 + 1) % N = _
      rw [← this]
/-- No divisor from d on, j of them tried. -/
def td (n : Nat) : Nat → Nat → Bool
  | 0, d => decide (n < d * d)
  | j + 1, d => if n < d * d then true else if n % d = 0 then false else td n j (d + 1)
theorem td_ok (n j d : Nat) (h : td n j d = true) (hd : ∀ m, 2 ≤ m → m < d → ¬ m ∣ n) : ∀ m, 2 ≤ m → m * m ≤ n → ¬ m ∣ n := by
  induction j generalizing d with
  | zero =>
    have h : n < d * d := by simpa [td] using h
    intro m h2 hm
    refine hd m h2 ?_
    rcases Nat.lt_or_ge m d with g | g
    · exact g
    · exact absurd (Nat.mul_le_mul g g) (by omega)
  | succ j ih =>
    unfold td at h
    split at h
    · rename_i h
      intro m h2 hm
      refine hd m h2 ?_
      rcases Nat.lt_or_ge m d with g | g
      · exact g
      · exact absurd (Nat.mul_le_mul g g) (by omega)
    · split at h
      · cases h
      · rename_i h0
        refine ih (d + 1) h fun m h2 hm => ?_
        by_cases e : m = d
        · subst e; intro hh; exact h0 (Nat.mod_eq_zero_of_dvd hh)
        · exact hd m h2 (by omega)
theorem pr_td (n j : Nat) (h2 : 2 ≤ n) (h : td n j 2 = true) : Pr n := by
  refine Classical.byContradiction fun hc => ?_
  obtain ⟨m, k, rfl, h1, h2⟩ := two_of_not h2 hc
  have := td_ok _ _ _ h (fun m a b => by omega)
  rcases Nat.le_total m k with g | g
  · exact this m h1 (Nat.mul_le_mul_left m g) (Nat.dvd_mul_right _ _)
  · exact this k h2 (Nat.mul_le_mul_right k g) (Nat.dvd_mul_left _ _)
def wg (N a f q : Nat) : Bool := Nat.gcd (pw N a f ((N - 1) / q) + (N - 1)) N == 1
theorem wg_gcd (N x : Nat) (hN : 2 ≤ N) (hx : 1 ≤ x) (h : Nat.gcd (x % N + (N - 1)) N = 1) : Nat.gcd (x - 1) N = 1 := by
  have e : x % N + (N - 1) + N * (x / N) = x - 1 + N := by have := Nat.mod_add_div x N; omega
  have h1 : Nat.gcd (x % N + (N - 1) + N * (x / N)) N = Nat.gcd (x % N + (N - 1)) N := by rw [Nat.mul_comm N, Nat.gcd_add_mul_right_left]
  have h2 : Nat.gcd (x - 1 + N) N = Nat.gcd (x - 1) N := by simp
  rw [← h2, ← e, h1, h]
theorem pock1' {N r a q e f : Nat} (hf : N < 2 ^ f) (ha : 1 ≤ a) (hr : Pr r) (hrN : r ∣ N) (hN : 2 ≤ N) (hq : Pr q) (he : (N - 1) % q ^ e = 0) (h1 : pw N a f (N - 1) = 1) (h2 : wg N a f q = true) : q ^ e ∣ r - 1 := by
  refine pock1 (a := a) hr hrN hN hq (Nat.dvd_of_mod_eq_zero he) ?_ ?_
  · rw [← pw_eq N a f (N - 1) (by omega), h1, Nat.mod_eq_of_lt (by omega)]
  · unfold wg at h2
    rw [pw_eq N a f _ (Nat.lt_of_le_of_lt (Nat.div_le_self _ _) (by omega))] at h2
    exact wg_gcd N _ hN (Nat.pow_pos ha) (by simpa using h2)
end Go.Proofs.Ytkdclocjijmgpaa.Pm
/-
  Curves: a prime makes a field; a cubic without a root (pure).
-/
namespace Go.Proofs.Ytkdclocjijmgpaa.Gl
open Pm
variable {p : Nat} [NeZero p]
theorem dvd_F {x : Nat} : F p x = 0 ↔ p ∣ x := by
  constructor
  · intro h
    have : (F p x).val = 0 := by rw [h]; rfl
    exact Nat.dvd_of_mod_eq_zero this
  · intro h
    exact Fin.ext (by rw [F_val, Nat.mod_eq_zero_of_dvd h]; rfl)
theorem F_pow (x k : Nat) : F p (x ^ (k + 1)) = F p (x ^ k) * F p x := by rw [Nat.pow_succ, F_mul]
/-- Modulo a prime. -/
theorem Fd.of (hp : Pr p) (h2 : 2 < p) : Fd p where
  dom a b h := by
    rw [← F_self a, ← F_self b, ← F_mul, dvd_F] at h
    rcases hp.mul h with h | h
    · left; rw [← F_self a]; exact dvd_F.2 h
    · right; rw [← F_self b]; exact dvd_F.2 h
  inv a h := by
    refine ⟨F p (a.val ^ (p - 2)), ?_⟩
    have hn : ¬ p ∣ a.val := fun hd => h (by rw [← F_self a]; exact dvd_F.2 hd)
    have hf := fermat1 hp a.val hn
    have e : a * F p (a.val ^ (p - 2)) = F p (a.val ^ (p - 1)) := by
      conv => lhs; lhs; rw [← F_self a]
      rw [← F_mul, ← Nat.pow_succ', show (p - 2).succ = p - 1 by omega]
    rw [e, ← F_mod, hf, F_mod, F_1]
  two h := by
    have e : (2 : Fin p) = F p 2 := rfl
    rw [e, dvd_F] at h
    exact absurd (Nat.le_of_dvd (by decide) h) (by omega)
/-- Polynomials modulo x^3 - 3 x + b, as three numbers; nb: p - b. -/
abbrev T3 := Nat × Nat × Nat
def m3 (p nb : Nat) : T3 → T3 → T3
  | (r0, r1, r2), (s0, s1, s2) =>
    ((r0 * s0 + nb * ((r1 * s2 + r2 * s1) % p)) % p, (r0 * s1 + r1 * s0 + 3 * (r1 * s2 + r2 * s1) + nb * (r2 * s2 % p)) % p, (r0 * s2 + r1 * s1 + r2 * s0 + 3 * (r2 * s2)) % p)
def sq3 (p nb : Nat) (r : T3) : T3 := m3 p nb r r
def pw3 (p nb : Nat) : Nat → Nat → T3
  | 0, _ => (1, 0, 0)
  | f + 1, k => if k % 2 = 0 then sq3 p nb (pw3 p nb f (k / 2)) else m3 p nb (sq3 p nb (pw3 p nb f (k / 2))) (0, 1, 0)
def ev (x : Fin p) (r : T3) : Fin p := F p r.1 + F p r.2.1 * x + F p r.2.2 * (x * x)
theorem F3 : F p 3 = 3 := rfl
theorem m3_ev {nb : Nat} {x : Fin p} (hx : x * x * x = 3 * x + F p nb) (r s : T3) : ev x (m3 p nb r s) = ev x r * ev x s := by
  obtain ⟨r0, r1, r2⟩ := r
  obtain ⟨s0, s1, s2⟩ := s
  unfold ev m3
  simp only [F_mod, F_add, F_mul, F3]
  generalize F p r0 = a0, F p r1 = a1, F p r2 = a2, F p s0 = b0, F p s1 = b1, F p s2 = b2, F p nb = n at *
  grobner
def fpw (x : Fin p) : Nat → Fin p
  | 0 => 1
  | k + 1 => fpw x k * x
theorem fpw_add (x : Fin p) (j k : Nat) : fpw x (j + k) = fpw x j * fpw x k := by
  induction k with
  | zero => show fpw x j = fpw x j * 1; grobner
  | succ k ih => show fpw x (j + k) * x = fpw x j * (fpw x k * x); rw [ih]; grobner
theorem fpw_F (x k : Nat) : fpw (F p x) k = F p (x ^ k) := by
  induction k with
  | zero => exact F_1.symm
  | succ k ih => rw [F_pow]; show fpw (F p x) k * _ = _; rw [ih]
theorem pw3_ev {nb : Nat} {x : Fin p} (hx : x * x * x = 3 * x + F p nb) (f k : Nat) (h : k < 2 ^ f) : ev x (pw3 p nb f k) = fpw x k := by
  induction f generalizing k with
  | zero =>
    have : k = 0 := by simpa using h
    subst this
    show F p 1 + F p 0 * x + F p 0 * (x * x) = 1
    rw [F_1, F_0]; grobner
  | succ f ih =>
    have e := ih (k / 2) (by rw [Nat.pow_succ] at h; omega)
    have eX : ev x (0, 1, 0) = x := by
      show F p 0 + F p 1 * x + F p 0 * (x * x) = x
      rw [F_1, F_0]; grobner
    unfold pw3 sq3
    split
    · rename_i h0
      rw [m3_ev hx, e, ← fpw_add]
      congr 1; omega
    · rename_i h0
      rw [m3_ev hx, m3_ev hx, e, eX, ← fpw_add]
      show fpw x (k / 2 + k / 2 + 1) = _
      congr 1; omega
/-- The cubic has no root where x^p - x has an inverse modulo it. -/
theorem no_root (hp : Pr p) {nb f : Nat} {R A : T3} (hf : p < 2 ^ f) (hR : pw3 p nb f p = R) (hA : m3 p nb A (R.1, R.2.1 + (p - 1), R.2.2) = (1, 0, 0)) (x : Fin p) : x * x * x ≠ 3 * x + F p nb := by
  intro hx
  have h1 := pw3_ev hx f p hf
  rw [hR] at h1
  have h2 : fpw x p = x := by
    conv => lhs; rw [← F_self x]
    rw [fpw_F, ← F_mod, fermat hp, F_mod, F_self]
  rw [h2] at h1
  have h3 := m3_ev hx A (R.1, R.2.1 + (p - 1), R.2.2)
  rw [hA] at h3
  have h4 : ev x (R.1, R.2.1 + (p - 1), R.2.2) = 0 := by
    unfold ev at h1 ⊢
    simp only [F_add] at *
    have e : F p (p - 1) + 1 = 0 := by rw [← F_1 (p := p), ← F_add, show p - 1 + 1 = p by have := hp.1; omega, F_p]
    grobner
  have h5 : ev x (1, 0, 0) = 1 := by
    show F p 1 + F p 0 * x + F p 0 * (x * x) = 1
    rw [F_1, F_0]; grobner
  rw [h4, h5] at h3
  have h6 : F p 1 = 0 := by rw [F_1]; grobner
  rw [dvd_F] at h6
  have := Nat.le_of_dvd (by decide) h6
  have := hp.1
  omega
end Go.Proofs.Ytkdclocjijmgpaa.Gl
/-
  Curves: the order times the base, by the kernel (pure).
-/
namespace Go.Proofs.Ytkdclocjijmgpaa.Gl
open Pm
/-- So many times a point, in three numbers: doubled and added. -/
def dbl (p : Nat) (t : T3) : T3 := jdb p t.1 t.2.1 t.2.2
def nm (p : Nat) (g : T3) : Nat → Nat → T3
  | 0, _ => (0, 0, 0)
  | f + 1, k => if k % 2 = 0 then dbl p (nm p g f (k / 2)) else jsm p (dbl p (nm p g f (k / 2))) g
theorem nm_lt {p : Nat} {g : T3} (h0 : 0 < p) (hg : Lt3 p g) (f k : Nat) : Lt3 p (nm p g f k) := by
  induction f generalizing k with
  | zero => exact ⟨h0, h0, h0⟩
  | succ f ih =>
    unfold nm
    split
    · exact jdb_lt h0
    · exact jsm_lt h0 (jdb_lt h0) hg
theorem nm_rp {p : Nat} [NeZero p] {c : Ec p} (hc : c.Ok) (ha : c.a + 3 = 0) {g : T3} (lg : Lt3 p g) {G : Pt p} (hG : c.On G) (rg : Rp g G) (f k : Nat) (h : k < 2 ^ f) : Rp (nm p g f k) (c.mul k G) := by
  have h0 := p_pos (p := p)
  induction f generalizing k with
  | zero =>
    have : k = 0 := by simpa using h
    subst this
    exact (rfl : (0 : Nat) = 0)
  | succ f ih =>
    have e := ih (k / 2) (by rw [Nat.pow_succ] at h; omega)
    have o := mul_on hc hG (k / 2)
    have d := jdb_rp hc ha (nm_lt h0 lg f (k / 2)) o e
    rw [← mul_add hc hG] at d
    unfold nm
    split
    · rename_i hk
      rw [show k / 2 + k / 2 = k by omega] at d
      exact d
    · rename_i hk
      have := jsm_rp hc ha (jdb_lt h0) lg (mul_on hc hG _) hG d rg
      have e1 : c.add (c.mul (k / 2 + k / 2) G) G = c.mul k G := by
        show c.mul (k / 2 + k / 2 + 1) G = _
        rw [show k / 2 + k / 2 + 1 = k by omega]
      rw [e1] at this
      exact this
theorem test256 : (nm c256.p (c256.gx, c256.gy, 1) 256 c256.n).2.2 = 0 := by decide +kernel
theorem test384 : (nm c384.p (c384.gx, c384.gy, 1) 384 c384.n).2.2 = 0 := by decide +kernel
def r256 : T3 := (66434390973925144466073271287821796038003695194169110494110089305650096453661, 12402202686218762177567235911775779164004716598278868847786114277539554646092, 24678849118215552148312087830792888746041224110560601850711771001608500700145)
def i256 : T3 := (76626890310466861426869089647039036757962535851890885406097439786770458211455, 74462945259064871768191128030512052509059297803194871526163573358218695456204, 34768139465301476436978405170953382516735956999154666452188405812258086013549)
def r384 : T3 := (8300902441410358810024883245706595788071887638472987429650051756787010122663664392654234716054658334410824607717835, 36451842499335230207230939190122359435795929611070366073564430331459357452117665764765104949638877581977396150453386, 15550551877492060201127078427218509008503925815996229619149120823729355824416602968196515686102139833725391182697242)
def i384 : T3 := (23037766613497683937702734290281044719364893268180251583910224888989381657771069200037813904257325918671976092329602, 8235438212423615602427778915669574859600037698862346933589434399495169446996583974901273360826717582835190849638831, 12157362177932134139146813183752135342286725243554133716818896354380897714709611791313184492360272402950851405460538)
theorem cub256 : pw3 c256.p (c256.p - c256.b) 256 c256.p = r256 := by decide +kernel
theorem inv256 : m3 c256.p (c256.p - c256.b) i256 (r256.1, r256.2.1 + (c256.p - 1), r256.2.2) = (1, 0, 0) := by decide +kernel
theorem cub384 : pw3 c384.p (c384.p - c384.b) 384 c384.p = r384 := by decide +kernel
theorem inv384 : m3 c384.p (c384.p - c384.b) i384 (r384.1, r384.2.1 + (c384.p - 1), r384.2.2) = (1, 0, 0) := by decide +kernel
end Go.Proofs.Ytkdclocjijmgpaa.Gl
