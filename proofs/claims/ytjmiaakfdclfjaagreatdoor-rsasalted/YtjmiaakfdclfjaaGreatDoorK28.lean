/-
  Primes: what is raised by both exponents is what it was (pure).
-/
import Derived.Test.YtjmiaakfdclfjaaGreatDoorK27
namespace Go.Proofs.YtjmiaakfdclfjaaGreatDoor.Pm
theorem pr_pow {p : Nat} (hp : Pr p) (m k : Nat) (h1 : 1 ≤ k) (hk : p - 1 ∣ k - 1) : m ^ k % p = m % p := by
  obtain ⟨j, rfl⟩ : ∃ j, k = j + 1 := ⟨k - 1, by omega⟩
  by_cases hd : p ∣ m
  · rw [Nat.pow_succ, Nat.mod_eq_zero_of_dvd (Nat.dvd_trans hd (Nat.dvd_mul_left _ _)), Nat.mod_eq_zero_of_dvd hd]
  · obtain ⟨c, hc⟩ := hk
    have hu : U1 p m (p - 1) := fermat1 hp m hd
    have hj : j = (p - 1) * c := by omega
    have h2 := hu.mul c
    rw [← hj] at h2
    unfold U1 at h2
    rw [Nat.pow_succ, Nat.mul_mod, h2, ← Nat.mul_mod, Nat.one_mul]
theorem Pr.cop2 {p q : Nat} (hp : Pr p) (hq : Pr q) (h : p ≠ q) : Nat.Coprime p q := hp.cop fun hd => by
  rcases hq.2 p hd with g | g
  · have := hp.1; omega
  · exact h g
theorem mod_both {p q a b : Nat} (hc : Nat.Coprime p q) (hp : a % p = b % p) (hq : a % q = b % q) : a % (p * q) = b % (p * q) := by
  rcases Nat.le_total b a with h | h
  · exact mod_of_dvd h (Nat.Coprime.mul_dvd_of_dvd_of_dvd hc (dvd_of_mod hp) (dvd_of_mod hq))
  · exact (mod_of_dvd h (Nat.Coprime.mul_dvd_of_dvd_of_dvd hc (dvd_of_mod hp.symm) (dvd_of_mod hq.symm))).symm
/-- The secret exponent, then the open one. -/
theorem rsa_back {p q m e d : Nat} (hp : Pr p) (hq : Pr q) (hne : p ≠ q) (h0 : 1 ≤ d * e) (h1 : p - 1 ∣ d * e - 1) (h2 : q - 1 ∣ d * e - 1) (hm : m < p * q) : (m ^ d % (p * q)) ^ e % (p * q) = m := by
  rw [← Nat.pow_mod, ← Nat.pow_mul, mod_both (hp.cop2 hq hne) (pr_pow hp m _ h0 h1) (pr_pow hq m _ h0 h2), Nat.mod_eq_of_lt hm]
end Go.Proofs.YtjmiaakfdclfjaaGreatDoor.Pm
/-
  The known keys: back (as far as their factors are known to be primes).
-/
namespace Go.Proofs.YtjmiaakfdclfjaaGreatDoor.Pm
theorem key0_n : 88900632503243351461199153429459154332975524503983981294509376062221862617071 * 97384937673999542200773646991410189597600124392557061578446940566750935936157 = 8657582555507491686262974108093741294544742598297280675245024231515694375475306331591516064085498613796312832291049736970477446530984494687968453394336147 := by decide +kernel
theorem key0_back (m : Nat) (hm : m < 8657582555507491686262974108093741294544742598297280675245024231515694375475306331591516064085498613796312832291049736970477446530984494687968453394336147) : (m ^ 1442930425917915281043829018015623549090790433049546779207504038585949062579186674336889803531972773499315327157853193553596817581351923061889913432630487 % 8657582555507491686262974108093741294544742598297280675245024231515694375475306331591516064085498613796312832291049736970477446530984494687968453394336147) ^ 3 % 8657582555507491686262974108093741294544742598297280675245024231515694375475306331591516064085498613796312832291049736970477446530984494687968453394336147 = m := by
  have h := rsa_back (m := m) (e := 3) (d := 1442930425917915281043829018015623549090790433049546779207504038585949062579186674336889803531972773499315327157853193553596817581351923061889913432630487) pr0_71 pr10_157 (by decide) (by decide +kernel) (Nat.dvd_of_mod_eq_zero (by decide +kernel)) (Nat.dvd_of_mod_eq_zero (by decide +kernel)) (by rw [key0_n]; exact hm)
  rw [key0_n] at h
  exact h
theorem key2_n : 11893067265757354036213055555798390198132612185751396483225919590495746575497479966854070680528710877764282224625948595602460640209804849277353684779574133 * 13296718565256490367556322151028556354268719568020930811009247818981481613092301499190362027943750457012969329154695214800473725660155537062353417534985813 = 158138768310440055392957985137471508737999308801297937211307408067755664376562154580867038784686764059489708891404982936022918860834194886416610481542594377020291056682069603768840286117302932809677454382742429974200262911255078811515943309616784668018445819732220310856015529499834227459283537708654336775129 := by decide +kernel
theorem key2_back (m : Nat) (hm : m < 158138768310440055392957985137471508737999308801297937211307408067755664376562154580867038784686764059489708891404982936022918860834194886416610481542594377020291056682069603768840286117302932809677454382742429974200262911255078811515943309616784668018445819732220310856015529499834227459283537708654336775129) : (m ^ 34786571758662420595580798521970154351303340637104409902906957114436112966487759609305730574170876513475340467719607801656688737006823177442132917392599775289752026883225789947544933004858671561971341270580737665467859858273168788342998481674874261459161868012306468602533762716191991941694790042104074465801 % 158138768310440055392957985137471508737999308801297937211307408067755664376562154580867038784686764059489708891404982936022918860834194886416610481542594377020291056682069603768840286117302932809677454382742429974200262911255078811515943309616784668018445819732220310856015529499834227459283537708654336775129) ^ 65537 % 158138768310440055392957985137471508737999308801297937211307408067755664376562154580867038784686764059489708891404982936022918860834194886416610481542594377020291056682069603768840286117302932809677454382742429974200262911255078811515943309616784668018445819732220310856015529499834227459283537708654336775129 = m := by
  have h := rsa_back (m := m) (e := 65537) (d := 34786571758662420595580798521970154351303340637104409902906957114436112966487759609305730574170876513475340467719607801656688737006823177442132917392599775289752026883225789947544933004858671561971341270580737665467859858273168788342998481674874261459161868012306468602533762716191991941694790042104074465801) pr49_133 pr39_813 (by decide) (by decide +kernel) (Nat.dvd_of_mod_eq_zero (by decide +kernel)) (Nat.dvd_of_mod_eq_zero (by decide +kernel)) (by rw [key2_n]; exact hm)
  rw [key2_n] at h
  exact h
end Go.Proofs.YtjmiaakfdclfjaaGreatDoor.Pm
/-
  Primes: by the factors of N + 1 (Lucas, Morrison). Pure.
-/
namespace Go.Proofs.YtjmiaakfdclfjaaGreatDoor.Pm
/-- (1 + sqrt D) ^ n: its two parts. -/
def uv (D : Nat) : Nat → Nat × Nat
  | 0 => (1, 0)
  | n + 1 => ((uv D n).1 + D * (uv D n).2, (uv D n).1 + (uv D n).2)
/-- The terms below j of a sum by binomials. -/
def Sf (n : Nat) (f : Nat → Nat) : Nat → Nat
  | 0 => 0
  | j + 1 => Sf n f j + C n j * f j
theorem Sf_succ (n : Nat) (f : Nat → Nat) (j : Nat) : Sf (n + 1) f (j + 1) = Sf n (fun k => f (k + 1)) j + Sf n f (j + 1) := by
  induction j with
  | zero => simp [Sf, C_zero]
  | succ j ih =>
    have e : Sf (n + 1) f (j + 2) = Sf (n + 1) f (j + 1) + C (n + 1) (j + 1) * f (j + 1) := rfl
    have e2 : Sf n f (j + 2) = Sf n f (j + 1) + C n (j + 1) * f (j + 1) := rfl
    have e3 : Sf n (fun k => f (k + 1)) (j + 1) = Sf n (fun k => f (k + 1)) j + C n j * f (j + 1) := rfl
    rw [e, ih, e2, e3, C_succ, Nat.add_mul]
    omega
theorem Sf_big (n : Nat) (f : Nat → Nat) : Sf n f (n + 2) = Sf n f (n + 1) := by
  show Sf n f (n + 1) + C n (n + 1) * f (n + 1) = _
  rw [C_big n (n + 1) (by omega)]; simp
theorem Sf_mul (n c : Nat) (f : Nat → Nat) (j : Nat) : Sf n (fun k => c * f k) j = c * Sf n f j := by
  induction j with
  | zero => rfl
  | succ j ih =>
    show Sf n (fun k => c * f k) j + C n j * (c * f j) = c * (Sf n f j + C n j * f j)
    rw [ih, Nat.mul_add, Nat.mul_left_comm]
theorem Sf_mod {p : Nat} (hp : Pr p) (f : Nat → Nat) (j : Nat) (h0 : 0 < j) (h : j ≤ p) : Sf p f j % p = f 0 % p := by
  induction j with
  | zero => omega
  | succ j ih =>
    by_cases hj : j = 0
    · subst hj; simp [Sf, C_zero]
    · show (Sf p f j + C p j * f j) % p = _
      have hd : p ∣ C p j * f j := Nat.dvd_trans (C_prime hp (by omega) (by omega)) (Nat.dvd_mul_right _ _)
      rw [Nat.add_mod, Nat.mod_eq_zero_of_dvd hd, Nat.add_zero, Nat.mod_mod, ih (by omega) (by omega)]
/-- The powers of sqrt D: its two parts. -/
def eo (D : Nat) : Nat → Nat × Nat
  | 0 => (1, 0)
  | k + 1 => (D * (eo D k).2, (eo D k).1)
theorem uv_sum (D n : Nat) : (uv D n).1 = Sf n (fun k => (eo D k).1) (n + 1) ∧ (uv D n).2 = Sf n (fun k => (eo D k).2) (n + 1) := by
  induction n with
  | zero => exact ⟨rfl, rfl⟩
  | succ n ih =>
    constructor
    · rw [Sf_succ, Sf_big]
      have e : (fun k => (eo D (k + 1)).1) = fun k => D * (eo D k).2 := rfl
      rw [e, Sf_mul, ← ih.1, ← ih.2]
      show (uv D n).1 + D * (uv D n).2 = _
      omega
    · rw [Sf_succ, Sf_big]
      have e : (fun k => (eo D (k + 1)).2) = fun k => (eo D k).1 := rfl
      rw [e, ← ih.1, ← ih.2]
      rfl
theorem eo_odd (D k : Nat) : eo D (2 * k + 1) = (0, D ^ k) := by
  induction k with
  | zero => simp [eo]
  | succ k ih =>
    have e : 2 * (k + 1) + 1 = 2 * k + 1 + 1 + 1 := by omega
    rw [e]
    show (D * (D * (eo D (2 * k + 1)).2, (eo D (2 * k + 1)).1).2, (D * (eo D (2 * k + 1)).2, (eo D (2 * k + 1)).1).1) = _
    rw [ih]
    simp [Nat.pow_succ, Nat.mul_comm]
theorem uv_prime {r : Nat} (hr : Pr r) (D k : Nat) (hk : r = 2 * k + 1) : (uv D r).1 % r = 1 % r ∧ (uv D r).2 % r = D ^ k % r := by
  have h := uv_sum D r
  have h1 := Sf_mod hr (fun k => (eo D k).1) r (by have := hr.1; omega) (Nat.le_refl _)
  have h2 := Sf_mod hr (fun k => (eo D k).2) r (by have := hr.1; omega) (Nat.le_refl _)
  have e := eo_odd D k
  rw [← hk] at e
  constructor
  · rw [h.1]
    show (Sf r (fun k => (eo D k).1) r + C r r * (eo D r).1) % r = _
    rw [e, Nat.mul_zero, Nat.add_zero, h1]
    rfl
  · rw [h.2]
    show (Sf r (fun k => (eo D k).2) r + C r r * (eo D r).2) % r = _
    rw [e, C_self, Nat.one_mul, Nat.add_mod, h2]
    show ((0 : Nat) % r + D ^ k % r) % r = _
    rw [Nat.zero_mod, Nat.zero_add, Nat.mod_mod]
theorem uv_add (D m k : Nat) : (uv D (m + k)).1 = (uv D m).1 * (uv D k).1 + D * ((uv D m).2 * (uv D k).2) ∧ (uv D (m + k)).2 = (uv D m).2 * (uv D k).1 + (uv D m).1 * (uv D k).2 := by
  induction k with
  | zero => simp [uv]
  | succ k ih =>
    show (uv D (m + k)).1 + D * (uv D (m + k)).2 = (uv D m).1 * ((uv D k).1 + D * (uv D k).2) + D * ((uv D m).2 * ((uv D k).1 + (uv D k).2)) ∧ (uv D (m + k)).1 + (uv D (m + k)).2 = (uv D m).2 * ((uv D k).1 + D * (uv D k).2) + (uv D m).1 * ((uv D k).1 + (uv D k).2)
    rw [ih.1, ih.2]
    generalize (uv D m).1 = a
    generalize (uv D m).2 = b
    generalize (uv D k).1 = c
    generalize (uv D k).2 = d
    constructor
    · simp only [Nat.mul_add]
      have e1 : a * (D * d) = D * (a * d) := Nat.mul_left_comm ..
      omega
    · simp only [Nat.mul_add]
      have e1 : b * (D * d) = D * (b * d) := Nat.mul_left_comm ..
      omega
theorem uv_norm (D n : Nat) (hD : 1 ≤ D) : ∃ s : Int, (s = 1 ∨ s = -1) ∧ ((uv D n).1 : Int) * (uv D n).1 - D * ((uv D n).2 * (uv D n).2) = s * (((D - 1) ^ n : Nat) : Int) := by
  induction n with
  | zero => exact ⟨1, .inl rfl, by simp [uv]⟩
  | succ n ih =>
    obtain ⟨s, hs, h⟩ := ih
    refine ⟨-s, by omega, ?_⟩
    show (((uv D n).1 + D * (uv D n).2 : Nat) : Int) * ((uv D n).1 + D * (uv D n).2 : Nat) - D * (((uv D n).1 + (uv D n).2 : Nat) * ((uv D n).1 + (uv D n).2 : Nat)) = _
    obtain ⟨E, rfl⟩ : ∃ E, D = E + 1 := ⟨D - 1, by omega⟩
    rw [Nat.pow_succ, Nat.add_sub_cancel] at *
    generalize ((uv (E + 1) n).1) = a at *
    generalize ((uv (E + 1) n).2) = b at *
    generalize E ^ n = P at *
    push_cast at *
    grind
theorem Pr.pow {p a : Nat} (hp : Pr p) (n : Nat) (h : p ∣ a ^ n) : p ∣ a := by
  induction n with
  | zero => rw [Nat.pow_zero] at h; have := Nat.le_of_dvd (by decide) h; have := hp.1; omega
  | succ n ih =>
    rw [Nat.pow_succ] at h
    rcases hp.mul h with h | h
    · exact ih h
    · exact h
theorem uv_unit {r D : Nat} (hr : Pr r) (hD : 1 ≤ D) (h0 : ¬ r ∣ D - 1) (n : Nat) (hu : r ∣ (uv D n).2) : ¬ r ∣ (uv D n).1 := by
  intro hv
  obtain ⟨s, hs, h⟩ := uv_norm D n hD
  refine h0 (hr.pow n ?_)
  obtain ⟨x, hx⟩ := hu
  obtain ⟨y, hy⟩ := hv
  rw [hx, hy] at h
  have : (r : Int) ∣ s * (((D - 1) ^ n : Nat) : Int) := by
    rw [← h]
    refine ⟨(y : Int) * (r * y) - D * (x * (r * x)), ?_⟩
    push_cast
    grind
  have h2 : (r : Int) ∣ (((D - 1) ^ n : Nat) : Int) := by
    rcases hs with rfl | rfl
    · simpa using this
    · rw [Int.neg_one_mul] at this
      exact (Int.dvd_neg.1 this)
  exact Int.ofNat_dvd.1 h2
theorem uv_sub {r D : Nat} (hr : Pr r) (hD : 1 ≤ D) (h0 : ¬ r ∣ D - 1) {m k : Nat} (h1 : r ∣ (uv D m).2) (h2 : r ∣ (uv D (m + k)).2) : r ∣ (uv D k).2 := by
  rw [(uv_add D m k).2] at h2
  have h3 : r ∣ (uv D m).1 * (uv D k).2 := (Nat.dvd_add_right (Nat.dvd_trans h1 (Nat.dvd_mul_right _ _))).1 h2
  rcases hr.mul h3 with h | h
  · exact absurd h (uv_unit hr hD h0 m h1)
  · exact h
theorem uv_times {r D m : Nat} (h : r ∣ (uv D m).2) (k : Nat) : r ∣ (uv D (m * k)).2 := by
  induction k with
  | zero => exact Nat.dvd_zero r
  | succ k ih =>
    rw [Nat.mul_succ, (uv_add D (m * k) m).2]
    exact Nat.dvd_add (Nat.dvd_trans ih (Nat.dvd_mul_right _ _)) (Nat.dvd_trans h (Nat.dvd_mul_left _ _))
theorem uv_gcd {r D : Nat} (hr : Pr r) (hD : 1 ≤ D) (h0 : ¬ r ∣ D - 1) (m n : Nat) : r ∣ (uv D m).2 → r ∣ (uv D n).2 → r ∣ (uv D (Nat.gcd m n)).2 := by
  induction m, n using Nat.gcd.induction with
  | H0 n => intro _ h; rw [Nat.gcd_zero_left]; exact h
  | H1 m n hm ih =>
    intro h1 h2
    rw [Nat.gcd_rec]
    refine ih ?_ h1
    refine uv_sub hr hD h0 (uv_times h1 (n / m)) ?_
    rw [Nat.div_add_mod]
    exact h2
theorem uv_frob {r D : Nat} (hr : Pr r) (hD : 1 ≤ D) (h0 : ¬ r ∣ D - 1) (hd : ¬ r ∣ D) (ho : r % 2 = 1) : r ∣ (uv D (r + 1)).2 ∨ r ∣ (uv D (r - 1)).2 := by
  obtain ⟨k, hk⟩ : ∃ k, r = 2 * k + 1 := ⟨r / 2, by omega⟩
  have hp := uv_prime hr D k hk
  have hE : D ^ k * D ^ k % r = 1 % r := by
    rw [← Nat.pow_add, show k + k = r - 1 by omega]
    exact fermat1 hr D hd
  have h1 : 1 ≤ D ^ k := Nat.one_le_pow _ _ hD
  have hm : r ∣ (D ^ k - 1) * (D ^ k + 1) := by
    have := dvd_of_mod hE
    rw [show (D ^ k - 1) * (D ^ k + 1) = D ^ k * D ^ k - 1 by
      obtain ⟨x, hx⟩ : ∃ x, D ^ k = x + 1 := ⟨D ^ k - 1, by omega⟩
      rw [hx, Nat.add_sub_cancel, Nat.mul_add, Nat.add_mul]; omega]
    exact this
  rcases hr.mul hm with h | h
  · right
    obtain ⟨n, rfl⟩ : ∃ n, r = n + 1 := ⟨r - 1, by omega⟩
    rw [Nat.add_sub_cancel]
    have e1 : D ^ k % (n + 1) = 1 % (n + 1) := mod_of_dvd h1 h
    rw [e1] at hp
    have hv : (uv D (n + 1)).1 = (uv D (n + 1)).2 + (D - 1) * (uv D n).2 := by
      show (uv D n).1 + D * (uv D n).2 = (uv D n).1 + (uv D n).2 + (D - 1) * (uv D n).2
      obtain ⟨E, rfl⟩ : ∃ E, D = E + 1 := ⟨D - 1, by omega⟩
      rw [Nat.add_sub_cancel, Nat.add_mul]; omega
    have h3 : n + 1 ∣ (D - 1) * (uv D n).2 := by
      have := dvd_of_mod (hp.1.trans hp.2.symm)
      rw [hv, Nat.add_sub_cancel_left] at this
      exact this
    rcases hr.mul h3 with h | h
    · exact absurd h h0
    · exact h
  · left
    refine Nat.dvd_of_mod_eq_zero ?_
    show ((uv D r).1 + (uv D r).2) % r = 0
    rw [Nat.add_mod, hp.1, hp.2, ← Nat.add_mod, Nat.add_comm]
    exact Nat.mod_eq_zero_of_dvd h
/-- A prime factor q of N + 1 goes into r + 1 or r - 1. -/
theorem uv_q {r D N q t : Nat} (hr : Pr r) (hD : 1 ≤ D) (h0 : ¬ r ∣ D - 1) (hrN : r ∣ N) (hq : Pr q) (hN : q ∣ N + 1) (hU : N ∣ (uv D (N + 1)).2) (g : Nat.gcd (uv D ((N + 1) / q)).2 N = 1) (ht : r ∣ (uv D t).2) : q ∣ t := by
  refine Classical.byContradiction fun hn => ?_
  have hg := uv_gcd hr hD h0 t (N + 1) ht (Nat.dvd_trans hrN hU)
  obtain ⟨m, hm⟩ := hN
  have hm2 : (N + 1) / q = m := by rw [hm, Nat.mul_div_cancel_left _ (by have := hq.1; omega)]
  have hc : Nat.Coprime (Nat.gcd t (N + 1)) q := (hq.cop fun h => hn (Nat.dvd_trans h (Nat.gcd_dvd_left _ _))).symm
  have hd : Nat.gcd t (N + 1) ∣ m := hc.dvd_of_dvd_mul_left (hm ▸ Nat.gcd_dvd_right t (N + 1))
  obtain ⟨k, hk⟩ := hd
  have hu := uv_times hg k
  rw [← hk, ← hm2] at hu
  have := Nat.dvd_gcd hu hrN
  rw [g] at this
  have := Nat.le_of_dvd (by decide) this
  have := hr.1
  omega
theorem lucas2 {N D q1 q2 : Nat} (hN : 2 < N) (ho : N % 2 = 1) (hD : 1 ≤ D) (gD : Nat.gcd D N = 1) (g0 : Nat.gcd (D - 1) N = 1) (hq1 : Pr q1) (hq2 : Pr q2) (hne : q1 ≠ q2) (d1 : q1 ∣ N + 1) (d2 : q2 ∣ N + 1) (hU : N ∣ (uv D (N + 1)).2) (g1 : Nat.gcd (uv D ((N + 1) / q1)).2 N = 1) (g2 : Nat.gcd (uv D ((N + 1) / q2)).2 N = 1) (hF : N < (q1 * q2 - 1) * (q1 * q2 - 1)) : Pr N := by
  have big : ∀ r, Pr r → r ∣ N → q1 * q2 - 1 ≤ r := by
    intro r hr hrN
    have one : ∀ x, Nat.gcd x N = 1 → ¬ r ∣ x := fun x hx hd => by
      have := Nat.dvd_gcd hd hrN
      rw [hx] at this
      have := Nat.le_of_dvd (by decide) this
      have := hr.1
      omega
    have hro : r % 2 = 1 := by
      obtain ⟨k, hk⟩ := hrN
      rcases Nat.mod_two_eq_zero_or_one r with h | h
      · rw [hk, Nat.mul_mod, h, Nat.zero_mul, Nat.zero_mod] at ho; omega
      · exact h
    have hc : Nat.Coprime q1 q2 := hq1.cop fun h => by
      rcases hq2.2 _ h with h | h
      · have := hq1.1; omega
      · exact hne h
    have key : ∀ t, 0 < t → r ∣ (uv D t).2 → q1 * q2 ≤ t := fun t h0 ht => Nat.le_of_dvd h0 (hc.mul_dvd_of_dvd_of_dvd (uv_q hr hD (one _ g0) hrN hq1 d1 hU g1 ht) (uv_q hr hD (one _ g0) hrN hq2 d2 hU g2 ht))
    have := hr.1
    rcases uv_frob hr hD (one _ g0) (one _ gD) hro with h | h
    · have := key _ (by omega) h; omega
    · have := key _ (by omega) h; omega
  refine ⟨by omega, fun m hm => ?_⟩
  obtain ⟨k, hk⟩ := hm
  by_cases h1 : m = 1
  · exact .inl h1
  · right
    by_cases hk1 : k = 1
    · rw [hk, hk1, Nat.mul_one]
    · have m0 : m ≠ 0 := by rintro rfl; omega
      have k0 : k ≠ 0 := by rintro rfl; omega
      obtain ⟨a, ha, da⟩ := hasPr m (by omega)
      obtain ⟨b, hb, db⟩ := hasPr k (by omega)
      have la := big a ha (hk ▸ Nat.dvd_trans da (Nat.dvd_mul_right _ _))
      have lb := big b hb (hk ▸ Nat.dvd_trans db (Nat.dvd_mul_left _ _))
      have ma := Nat.le_of_dvd (by omega) da
      have mb := Nat.le_of_dvd (by omega) db
      have := Nat.mul_le_mul (Nat.le_trans la ma) (Nat.le_trans lb mb)
      omega
/-- The parts modulo N, by halves. -/
def mulP (N D : Nat) (x y : Nat × Nat) : Nat × Nat := ((x.1 * y.1 + D * (x.2 * y.2)) % N, (x.2 * y.1 + x.1 * y.2) % N)
def pwP (N D : Nat) : Nat → Nat → Nat × Nat
  | 0, _ => (1 % N, 0 % N)
  | f + 1, n => if n % 2 = 1 then mulP N D (mulP N D (pwP N D f (n / 2)) (pwP N D f (n / 2))) (1 % N, 1 % N) else mulP N D (pwP N D f (n / 2)) (pwP N D f (n / 2))
theorem mulP_uv (N D m k : Nat) : mulP N D ((uv D m).1 % N, (uv D m).2 % N) ((uv D k).1 % N, (uv D k).2 % N) = ((uv D (m + k)).1 % N, (uv D (m + k)).2 % N) := by
  unfold mulP
  rw [(uv_add D m k).1, (uv_add D m k).2]
  refine Prod.ext ?_ ?_
  · show (_ + _) % N = (_ + _) % N
    rw [Nat.add_mod, ← Nat.mul_mod, Nat.mul_mod D, ← Nat.mul_mod (uv D m).2, ← Nat.mul_mod D, ← Nat.add_mod]
  · show (_ + _) % N = (_ + _) % N
    rw [Nat.add_mod, ← Nat.mul_mod, ← Nat.mul_mod, ← Nat.add_mod]
theorem pwP_uv (N D f n : Nat) (h : n < 2 ^ f) : pwP N D f n = ((uv D n).1 % N, (uv D n).2 % N) := by
  induction f generalizing n with
  | zero =>
    have e : n = 0 := by simpa using h
    subst e
    rfl
  | succ f ih =>
    have hn : n / 2 < 2 ^ f := by rw [Nat.pow_succ] at h; omega
    have e1 : ((1 : Nat) % N, 1 % N) = ((uv D 1).1 % N, (uv D 1).2 % N) := by simp [uv]
    unfold pwP
    rw [ih _ hn, mulP_uv]
    split
    · rename_i ho
      rw [e1, mulP_uv, show n / 2 + n / 2 + 1 = n by omega]
    · rw [show n / 2 + n / 2 = n by omega]
end Go.Proofs.YtjmiaakfdclfjaaGreatDoor.Pm
/-
  Numbers that are primes.
-/
namespace Go.Proofs.YtjmiaakfdclfjaaGreatDoor.Pm
theorem lq5_713 : Pr 2713 := pr_td _ 54 (by decide) (by decide +kernel)
theorem lq6_341 : Pr 2341 := pr_td _ 50 (by decide) (by decide +kernel)
theorem lq4_467_w : pw 8904288467 2 34 (8904288467 - 1) = 1 := by decide +kernel
theorem lq4_467_F (r : Nat) (hr : Pr r) (hd : r ∣ 8904288467) : 6351133 ∣ r - 1 := by
  have h0 : 2713 ^ 1 ∣ r - 1 := pock1' (N := 8904288467) (a := 2) (q := 2713) (e := 1) (f := 34) (by decide +kernel) (by decide) hr hd (by decide) lq5_713 (by decide +kernel) lq4_467_w (by decide +kernel)
  have h1 : 2341 ^ 1 ∣ r - 1 := pock1' (N := 8904288467) (a := 2) (q := 2341) (e := 1) (f := 34) (by decide +kernel) (by decide) hr hd (by decide) lq6_341 (by decide +kernel) lq4_467_w (by decide +kernel)
  have g0 : 2713 ∣ r - 1 := h0
  have k1 : 2341 ∣ r - 1 := h1
  have g1 : 2713 * 2341 ∣ r - 1 := Nat.Coprime.mul_dvd_of_dvd_of_dvd (by decide +kernel) g0 k1
  exact g1
theorem lq4_467 : Pr 8904288467 := pock2 (F := 6351133) (by decide) lq4_467_F (by decide +kernel)
theorem lq3_419_w : pw 282040256308415419 2 58 (282040256308415419 - 1) = 1 := by decide +kernel
theorem lq3_419_F (r : Nat) (hr : Pr r) (hd : r ∣ 282040256308415419) : 8904288467 ∣ r - 1 := by
  have h0 : 8904288467 ^ 1 ∣ r - 1 := pock1' (N := 282040256308415419) (a := 2) (q := 8904288467) (e := 1) (f := 58) (by decide +kernel) (by decide) hr hd (by decide) lq4_467 (by decide +kernel) lq3_419_w (by decide +kernel)
  have g0 : 8904288467 ∣ r - 1 := h0
  exact g0
theorem lq3_419 : Pr 282040256308415419 := pock2 (F := 8904288467) (by decide) lq3_419_F (by decide +kernel)
theorem lq2_359_w : pw 23127301017290064359 2 65 (23127301017290064359 - 1) = 1 := by decide +kernel
theorem lq2_359_F (r : Nat) (hr : Pr r) (hd : r ∣ 23127301017290064359) : 282040256308415419 ∣ r - 1 := by
  have h0 : 282040256308415419 ^ 1 ∣ r - 1 := pock1' (N := 23127301017290064359) (a := 2) (q := 282040256308415419) (e := 1) (f := 65) (by decide +kernel) (by decide) hr hd (by decide) lq3_419 (by decide +kernel) lq2_359_w (by decide +kernel)
  have g0 : 282040256308415419 ∣ r - 1 := h0
  exact g0
theorem lq2_359 : Pr 23127301017290064359 := pock2 (F := 282040256308415419) (by decide) lq2_359_F (by decide +kernel)
theorem lq1_389_w : pw 3052803734282288495389 2 72 (3052803734282288495389 - 1) = 1 := by decide +kernel
theorem lq1_389_F (r : Nat) (hr : Pr r) (hd : r ∣ 3052803734282288495389) : 23127301017290064359 ∣ r - 1 := by
  have h0 : 23127301017290064359 ^ 1 ∣ r - 1 := pock1' (N := 3052803734282288495389) (a := 2) (q := 23127301017290064359) (e := 1) (f := 72) (by decide +kernel) (by decide) hr hd (by decide) lq2_359 (by decide +kernel) lq1_389_w (by decide +kernel)
  have g0 : 23127301017290064359 ∣ r - 1 := h0
  exact g0
theorem lq1_389 : Pr 3052803734282288495389 := pock2 (F := 23127301017290064359) (by decide) lq1_389_F (by decide +kernel)
theorem lq7_2 : Pr 2 := pr_td _ 3 (by decide) (by decide +kernel)
theorem lq0_619_w : pw 366328717715565470399619119248754291416873619 2 149 (366328717715565470399619119248754291416873619 - 1) = 1 := by decide +kernel
theorem lq0_619_F (r : Nat) (hr : Pr r) (hd : r ∣ 366328717715565470399619119248754291416873619) : 6105607468564576990778 ∣ r - 1 := by
  have h0 : 3052803734282288495389 ^ 1 ∣ r - 1 := pock1' (N := 366328717715565470399619119248754291416873619) (a := 2) (q := 3052803734282288495389) (e := 1) (f := 149) (by decide +kernel) (by decide) hr hd (by decide) lq1_389 (by decide +kernel) lq0_619_w (by decide +kernel)
  have h1 : 2 ^ 1 ∣ r - 1 := pock1' (N := 366328717715565470399619119248754291416873619) (a := 2) (q := 2) (e := 1) (f := 149) (by decide +kernel) (by decide) hr hd (by decide) lq7_2 (by decide +kernel) lq0_619_w (by decide +kernel)
  have g0 : 3052803734282288495389 ∣ r - 1 := h0
  have k1 : 2 ∣ r - 1 := h1
  have g1 : 3052803734282288495389 * 2 ∣ r - 1 := Nat.Coprime.mul_dvd_of_dvd_of_dvd (by decide +kernel) g0 k1
  exact g1
theorem lq0_619 : Pr 366328717715565470399619119248754291416873619 := pock3 (F := 6105607468564576990778) (c1 := 5048266668392291925779) (c2 := 9) (s := 5048266668392291925778) (by decide) lq0_619_F (by decide +kernel) (by decide +kernel) (by decide) (by decide +kernel) (.inr ⟨by decide +kernel, by decide +kernel⟩)
theorem lq10_31 : Pr 1408031 := pr_td _ 1188 (by decide) (by decide +kernel)
theorem lq11_83 : Pr 83 := pr_td _ 11 (by decide) (by decide +kernel)
theorem lq9_343_w : pw 17045457138343 2 44 (17045457138343 - 1) = 1 := by decide +kernel
theorem lq9_343_F (r : Nat) (hr : Pr r) (hd : r ∣ 17045457138343) : 116866573 ∣ r - 1 := by
  have h0 : 1408031 ^ 1 ∣ r - 1 := pock1' (N := 17045457138343) (a := 2) (q := 1408031) (e := 1) (f := 44) (by decide +kernel) (by decide) hr hd (by decide) lq10_31 (by decide +kernel) lq9_343_w (by decide +kernel)
  have h1 : 83 ^ 1 ∣ r - 1 := pock1' (N := 17045457138343) (a := 2) (q := 83) (e := 1) (f := 44) (by decide +kernel) (by decide) hr hd (by decide) lq11_83 (by decide +kernel) lq9_343_w (by decide +kernel)
  have g0 : 1408031 ∣ r - 1 := h0
  have k1 : 83 ∣ r - 1 := h1
  have g1 : 1408031 * 83 ∣ r - 1 := Nat.Coprime.mul_dvd_of_dvd_of_dvd (by decide +kernel) g0 k1
  exact g1
theorem lq9_343 : Pr 17045457138343 := pock2 (F := 116866573) (by decide) lq9_343_F (by decide +kernel)
theorem lq12_859 : Pr 115859 := pr_td _ 342 (by decide) (by decide +kernel)
theorem lq13_11 : Pr 11 := pr_td _ 5 (by decide) (by decide +kernel)
theorem lq14_3 : Pr 3 := pr_td _ 3 (by decide) (by decide +kernel)
theorem lq8_213_w : pw 46812482421163830255407131685221812300247378372213 2 166 (46812482421163830255407131685221812300247378372213 - 1) = 1 := by decide +kernel
theorem lq8_213_F (r : Nat) (hr : Pr r) (hd : r ∣ 46812482421163830255407131685221812300247378372213) : 260682789654049176084 ∣ r - 1 := by
  have h0 : 17045457138343 ^ 1 ∣ r - 1 := pock1' (N := 46812482421163830255407131685221812300247378372213) (a := 2) (q := 17045457138343) (e := 1) (f := 166) (by decide +kernel) (by decide) hr hd (by decide) lq9_343 (by decide +kernel) lq8_213_w (by decide +kernel)
  have h1 : 115859 ^ 1 ∣ r - 1 := pock1' (N := 46812482421163830255407131685221812300247378372213) (a := 2) (q := 115859) (e := 1) (f := 166) (by decide +kernel) (by decide) hr hd (by decide) lq12_859 (by decide +kernel) lq8_213_w (by decide +kernel)
  have h2 : 11 ^ 1 ∣ r - 1 := pock1' (N := 46812482421163830255407131685221812300247378372213) (a := 2) (q := 11) (e := 1) (f := 166) (by decide +kernel) (by decide) hr hd (by decide) lq13_11 (by decide +kernel) lq8_213_w (by decide +kernel)
  have h3 : 3 ^ 1 ∣ r - 1 := pock1' (N := 46812482421163830255407131685221812300247378372213) (a := 2) (q := 3) (e := 1) (f := 166) (by decide +kernel) (by decide) hr hd (by decide) lq14_3 (by decide +kernel) lq8_213_w (by decide +kernel)
  have h4 : 2 ^ 2 ∣ r - 1 := pock1' (N := 46812482421163830255407131685221812300247378372213) (a := 2) (q := 2) (e := 2) (f := 166) (by decide +kernel) (by decide) hr hd (by decide) lq7_2 (by decide +kernel) lq8_213_w (by decide +kernel)
  have g0 : 17045457138343 ∣ r - 1 := h0
  have k1 : 115859 ∣ r - 1 := h1
  have g1 : 17045457138343 * 115859 ∣ r - 1 := Nat.Coprime.mul_dvd_of_dvd_of_dvd (by decide +kernel) g0 k1
  replace g1 : 1974869618591281637 ∣ r - 1 := g1
  have k2 : 11 ∣ r - 1 := h2
  have g2 : 1974869618591281637 * 11 ∣ r - 1 := Nat.Coprime.mul_dvd_of_dvd_of_dvd (by decide +kernel) g1 k2
  replace g2 : 21723565804504098007 ∣ r - 1 := g2
  have k3 : 3 ∣ r - 1 := h3
  have g3 : 21723565804504098007 * 3 ∣ r - 1 := Nat.Coprime.mul_dvd_of_dvd_of_dvd (by decide +kernel) g2 k3
  replace g3 : 65170697413512294021 ∣ r - 1 := g3
  have k4 : 4 ∣ r - 1 := h4
  have g4 : 65170697413512294021 * 4 ∣ r - 1 := Nat.Coprime.mul_dvd_of_dvd_of_dvd (by decide +kernel) g3 k4
  exact g4
theorem lq8_213 : Pr 46812482421163830255407131685221812300247378372213 := pock3 (F := 260682789654049176084) (c1 := 6005809515666901781) (c2 := 688869493) (s := 6005809515666901780) (by decide) lq8_213_F (by decide +kernel) (by decide +kernel) (by decide) (by decide +kernel) (.inr ⟨by decide +kernel, by decide +kernel⟩)
end Go.Proofs.YtjmiaakfdclfjaaGreatDoor.Pm
/-
  Key 1's last factor is a prime; what is raised by both exponents of key 1 is what it was. (wip/mkprimes3.py)
-/
namespace Go.Proofs.YtjmiaakfdclfjaaGreatDoor.Pm
theorem lucas2' {N D q1 q2 f u1 u2 m1 m2 : Nat} (hN : 2 < N) (ho : N % 2 = 1) (hD : 1 ≤ D) (gD : Nat.gcd D N = 1) (g0 : Nat.gcd (D - 1) N = 1) (hq1 : Pr q1) (hq2 : Pr q2) (hne : q1 ≠ q2) (d1 : q1 * m1 = N + 1) (d2 : q2 * m2 = N + 1) (hf : N + 1 < 2 ^ f) (hU : (pwP N D f (N + 1)).2 = 0) (e1 : (pwP N D f m1).2 = u1) (e2 : (pwP N D f m2).2 = u2) (g1 : Nat.gcd u1 N = 1) (g2 : Nat.gcd u2 N = 1) (hF : N < (q1 * q2 - 1) * (q1 * q2 - 1)) : Pr N := by
  have p1 := hq1.1
  have p2 := hq2.1
  have k1 : (N + 1) / q1 = m1 := by rw [← d1, Nat.mul_div_cancel_left _ (by omega)]
  have k2 : (N + 1) / q2 = m2 := by rw [← d2, Nat.mul_div_cancel_left _ (by omega)]
  have l1 : m1 ≤ N + 1 := by rw [← k1]; exact Nat.div_le_self _ _
  have l2 : m2 ≤ N + 1 := by rw [← k2]; exact Nat.div_le_self _ _
  rw [pwP_uv N D f _ hf] at hU
  rw [pwP_uv N D f m1 (by omega)] at e1
  rw [pwP_uv N D f m2 (by omega)] at e2
  refine lucas2 hN ho hD gD g0 hq1 hq2 hne ⟨_, d1.symm⟩ ⟨_, d2.symm⟩ (Nat.dvd_of_mod_eq_zero hU) ?_ ?_ hF
  · have e1 : (uv D m1).2 % N = u1 := e1
    rw [k1, Nat.gcd_comm, Nat.gcd_rec, e1]; exact g1
  · have e2 : (uv D m2).2 % N = u2 := e2
    rw [k2, Nat.gcd_comm, Nat.gcd_rec, e2]; exact g2
theorem key1_p : Pr 37545719423795139873181279407594000031692604780923203611841409340400808242225753344440127316320202691459820298141261 :=
  lucas2' (D := 2) (f := 385) (m1 := 102491881220590982703185685244289915214013753685444067489002237389341498) (m2 := 802045041875856486297546741493231961227428735275496249675439007574) (u1 := 22494648102544318784680536116449289778848171074582418674531896116375477767347043970567131087235186584855923637579378) (u2 := 34967139938316594714249404011766818841136610986634259456344671061984427557447545349793436167983211453871726945796047) (by decide +kernel) (by decide +kernel) (by decide) (by decide +kernel) (by decide +kernel) lq0_619 lq8_213 (by decide) (by decide +kernel) (by decide +kernel) (by decide +kernel) (by decide +kernel) (by decide +kernel) (by decide +kernel) (by decide +kernel) (by decide +kernel) (by decide +kernel)
theorem key1_n : 37545719423795139873181279407594000031692604780923203611841409340400808242225753344440127316320202691459820298141261 * 37590695280246871155720510720636858606901300816938761479419033099384354223419901465434346160411208347808420118270043 = 1411369697937529239264245652434151725049269331422965351317348809731350390651401067502349558634232375508069991182683878948094877434088774610726893922824288367182607752606142574587576572898821162482467461118397121397604651059758544223 := by decide +kernel
theorem key1_back (m : Nat) (hm : m < 1411369697937529239264245652434151725049269331422965351317348809731350390651401067502349558634232375508069991182683878948094877434088774610726893922824288367182607752606142574587576572898821162482467461118397121397604651059758544223) : (m ^ 151501988571196701073042222940846504809826658934045825205876815790470268676207432593481989486730011469845619847874949415065840972477637686533868603124621910600176458804336420571753929867483422507630363337458457719387330334529684073 % 1411369697937529239264245652434151725049269331422965351317348809731350390651401067502349558634232375508069991182683878948094877434088774610726893922824288367182607752606142574587576572898821162482467461118397121397604651059758544223) ^ 65537 % 1411369697937529239264245652434151725049269331422965351317348809731350390651401067502349558634232375508069991182683878948094877434088774610726893922824288367182607752606142574587576572898821162482467461118397121397604651059758544223 = m := by
  have h := rsa_back (m := m) (e := 65537) (d := 151501988571196701073042222940846504809826658934045825205876815790470268676207432593481989486730011469845619847874949415065840972477637686533868603124621910600176458804336420571753929867483422507630363337458457719387330334529684073) key1_p pr23_43 (by decide) (by decide +kernel) (Nat.dvd_of_mod_eq_zero (by decide +kernel)) (Nat.dvd_of_mod_eq_zero (by decide +kernel)) (by rw [key1_n]; exact hm)
  rw [key1_n] at h
  exact h
theorem key0_forth (m : Nat) (hm : m < 8657582555507491686262974108093741294544742598297280675245024231515694375475306331591516064085498613796312832291049736970477446530984494687968453394336147) : (m ^ 3 % 8657582555507491686262974108093741294544742598297280675245024231515694375475306331591516064085498613796312832291049736970477446530984494687968453394336147) ^ 1442930425917915281043829018015623549090790433049546779207504038585949062579186674336889803531972773499315327157853193553596817581351923061889913432630487 % 8657582555507491686262974108093741294544742598297280675245024231515694375475306331591516064085498613796312832291049736970477446530984494687968453394336147 = m := by
  have h := rsa_back (m := m) (e := 1442930425917915281043829018015623549090790433049546779207504038585949062579186674336889803531972773499315327157853193553596817581351923061889913432630487) (d := 3) pr0_71 pr10_157 (by decide) (by decide +kernel) (Nat.dvd_of_mod_eq_zero (by decide +kernel)) (Nat.dvd_of_mod_eq_zero (by decide +kernel)) (by rw [key0_n]; exact hm)
  rw [key0_n] at h
  exact h
theorem key1_forth (m : Nat) (hm : m < 1411369697937529239264245652434151725049269331422965351317348809731350390651401067502349558634232375508069991182683878948094877434088774610726893922824288367182607752606142574587576572898821162482467461118397121397604651059758544223) : (m ^ 65537 % 1411369697937529239264245652434151725049269331422965351317348809731350390651401067502349558634232375508069991182683878948094877434088774610726893922824288367182607752606142574587576572898821162482467461118397121397604651059758544223) ^ 151501988571196701073042222940846504809826658934045825205876815790470268676207432593481989486730011469845619847874949415065840972477637686533868603124621910600176458804336420571753929867483422507630363337458457719387330334529684073 % 1411369697937529239264245652434151725049269331422965351317348809731350390651401067502349558634232375508069991182683878948094877434088774610726893922824288367182607752606142574587576572898821162482467461118397121397604651059758544223 = m := by
  have h := rsa_back (m := m) (e := 151501988571196701073042222940846504809826658934045825205876815790470268676207432593481989486730011469845619847874949415065840972477637686533868603124621910600176458804336420571753929867483422507630363337458457719387330334529684073) (d := 65537) key1_p pr23_43 (by decide) (by decide +kernel) (Nat.dvd_of_mod_eq_zero (by decide +kernel)) (Nat.dvd_of_mod_eq_zero (by decide +kernel)) (by rw [key1_n]; exact hm)
  rw [key1_n] at h
  exact h
theorem key2_forth (m : Nat) (hm : m < 158138768310440055392957985137471508737999308801297937211307408067755664376562154580867038784686764059489708891404982936022918860834194886416610481542594377020291056682069603768840286117302932809677454382742429974200262911255078811515943309616784668018445819732220310856015529499834227459283537708654336775129) : (m ^ 65537 % 158138768310440055392957985137471508737999308801297937211307408067755664376562154580867038784686764059489708891404982936022918860834194886416610481542594377020291056682069603768840286117302932809677454382742429974200262911255078811515943309616784668018445819732220310856015529499834227459283537708654336775129) ^ 34786571758662420595580798521970154351303340637104409902906957114436112966487759609305730574170876513475340467719607801656688737006823177442132917392599775289752026883225789947544933004858671561971341270580737665467859858273168788342998481674874261459161868012306468602533762716191991941694790042104074465801 % 158138768310440055392957985137471508737999308801297937211307408067755664376562154580867038784686764059489708891404982936022918860834194886416610481542594377020291056682069603768840286117302932809677454382742429974200262911255078811515943309616784668018445819732220310856015529499834227459283537708654336775129 = m := by
  have h := rsa_back (m := m) (e := 34786571758662420595580798521970154351303340637104409902906957114436112966487759609305730574170876513475340467719607801656688737006823177442132917392599775289752026883225789947544933004858671561971341270580737665467859858273168788342998481674874261459161868012306468602533762716191991941694790042104074465801) (d := 65537) pr49_133 pr39_813 (by decide) (by decide +kernel) (Nat.dvd_of_mod_eq_zero (by decide +kernel)) (Nat.dvd_of_mod_eq_zero (by decide +kernel)) (by rw [key2_n]; exact hm)
  rw [key2_n] at h
  exact h
end Go.Proofs.YtjmiaakfdclfjaaGreatDoor.Pm
