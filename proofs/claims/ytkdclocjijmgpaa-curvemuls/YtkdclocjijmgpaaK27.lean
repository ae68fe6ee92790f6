/-
  Primes: powers modulo a number, trial division, a witness (pure).
-/
import Derived.Test.YtkdclocjijmgpaaK26
namespace Go.Proofs.Ytkdclocjijmgpaa.Pm
def sqm (N x : Nat) : Nat := x * x % N
/-- a ^ k modulo N, k below 2 ^ f. -/
def pw (N a : Nat) : Nat → Nat → Nat
  | 0, _ => 1 % N
  | f + 1, k => if k % 2 = 0 then sqm N (pw N a f (k / 2)) else sqm N (pw N a f (k / 2)) * a % N
theorem pw_eq (N a f k : Nat) (h : k < 2 ^ f) : pw N a f k = a ^ k % N := by
  induction f generalizing k with
  | zero => have : k = 0 := by simpa using h
            subst this; simp [pw]
  | succ f ih =>
    have e := ih (k / 2) (by rw [Nat.pow_succ] at h; omega)
    unfold pw
    rw [e]
    unfold sqm
    split
    · rename_i h0
      have : k = k / 2 + k / 2 := by omega
      rw [← Nat.mul_mod, ← Nat.pow_add, ← this]
    · rename_i h0
      have : k = k / 2 + k / 2 + 1 := by omega
      rw [← Nat.mul_mod, Nat.mod_mul_mod, ← Nat.pow_add, ← Nat.pow_succ]
      show a ^ (k / 2 + k / 2 + 1) % N = _
      rw [← this]
/-- No divisor from d on, j of them tried. -/
def td (n : Nat) : Nat → Nat → Bool
  | 0, d => decide (n < d * d)
  | j + 1, d => if n < d * d then true else if n % d = 0 then false else td n j (d + 1)
theorem td_ok (n j d : Nat) (h : td n j d = true) (hd : ∀ m, 2 ≤ m → m < d → ¬ m ∣ n) : ∀ m, 2 ≤ m → m * m ≤ n → ¬ m ∣ n := by
  induction j generalizing d with
  | zero =>
    have h : n < d * d := by simpa [td] using h
    intro m h2 hm
    refine hd m h2 ?_
    rcases Nat.lt_or_ge m d with g | g
    · exact g
    · exact absurd (Nat.mul_le_mul g g) (by omega)
  | succ j ih =>
    unfold td at h
    split at h
    · rename_i h
      intro m h2 hm
      refine hd m h2 ?_
      rcases Nat.lt_or_ge m d with g | g
      · exact g
      · exact absurd (Nat.mul_le_mul g g) (by omega)
    · split at h
      · cases h
      · rename_i h0
        refine ih (d + 1) h fun m h2 hm => ?_
        by_cases e : m = d
        · subst e; intro hh; exact h0 (Nat.mod_eq_zero_of_dvd hh)
        · exact hd m h2 (by omega)
theorem pr_td (n j : Nat) (h2 : 2 ≤ n) (h : td n j 2 = true) : Pr n := by
  refine Classical.byContradiction fun hc => ?_
  obtain ⟨m, k, rfl, h1, h2⟩ := two_of_not h2 hc
  have := td_ok _ _ _ h (fun m a b => by omega)
  rcases Nat.le_total m k with g | g
  · exact this m h1 (Nat.mul_le_mul_left m g) (Nat.dvd_mul_right _ _)
  · exact this k h2 (Nat.mul_le_mul_right k g) (Nat.dvd_mul_left _ _)
def wg (N a f q : Nat) : Bool := Nat.gcd (pw N a f ((N - 1) / q) + (N - 1)) N == 1
theorem wg_gcd (N x : Nat) (hN : 2 ≤ N) (hx : 1 ≤ x) (h : Nat.gcd (x % N + (N - 1)) N = 1) : Nat.gcd (x - 1) N = 1 := by
  have e : x % N + (N - 1) + N * (x / N) = x - 1 + N := by have := Nat.mod_add_div x N; omega
  have h1 : Nat.gcd (x % N + (N - 1) + N * (x / N)) N = Nat.gcd (x % N + (N - 1)) N := by rw [Nat.mul_comm N, Nat.gcd_add_mul_right_left]
  have h2 : Nat.gcd (x - 1 + N) N = Nat.gcd (x - 1) N := by simp
  rw [← h2, ← e, h1, h]
theorem pock1' {N r a q e f : Nat} (hf : N < 2 ^ f) (ha : 1 ≤ a) (hr : Pr r) (hrN : r ∣ N) (hN : 2 ≤ N) (hq : Pr q) (he : (N - 1) % q ^ e = 0) (h1 : pw N a f (N - 1) = 1) (h2 : wg N a f q = true) : q ^ e ∣ r - 1 := by
  refine pock1 (a := a) hr hrN hN hq (Nat.dvd_of_mod_eq_zero he) ?_ ?_
  · rw [← pw_eq N a f (N - 1) (by omega), h1, Nat.mod_eq_of_lt (by omega)]
  · unfold wg at h2
    rw [pw_eq N a f _ (Nat.lt_of_le_of_lt (Nat.div_le_self _ _) (by omega))] at h2
    exact wg_gcd N _ hN (Nat.pow_pos ha) (by simpa using h2)
end Go.Proofs.Ytkdclocjijmgpaa.Pm
/-
  Curves: a prime makes a field; a cubic without a root (pure).
-/
namespace Go.Proofs.Ytkdclocjijmgpaa.Gl
open Pm
variable {p : Nat} [NeZero p]
theorem dvd_F {x : Nat} : F p x = 0 ↔ p ∣ x := by
  constructor
  · intro h
    have : (F p x).val = 0 := by rw [h]; rfl
    exact Nat.dvd_of_mod_eq_zero this
  · intro h
    exact Fin.ext (by rw [F_val, Nat.mod_eq_zero_of_dvd h]; rfl)
theorem F_pow (x k : Nat) : F p (x ^ (k + 1)) = F p (x ^ k) * F p x := by rw [Nat.pow_succ, F_mul]
/-- Modulo a prime. -/
theorem Fd.of (hp : Pr p) (h2 : 2 < p) : Fd p where
  dom a b h := by
    rw [← F_self a, ← F_self b, ← F_mul, dvd_F] at h
    rcases hp.mul h with h | h
    · left; rw [← F_self a]; exact dvd_F.2 h
    · right; rw [← F_self b]; exact dvd_F.2 h
  inv a h := by
    refine ⟨F p (a.val ^ (p - 2)), ?_⟩
    have hn : ¬ p ∣ a.val := fun hd => h (by rw [← F_self a]; exact dvd_F.2 hd)
    have hf := fermat1 hp a.val hn
    have e : a * F p (a.val ^ (p - 2)) = F p (a.val ^ (p - 1)) := by
      conv => lhs; lhs; rw [← F_self a]
      rw [← F_mul, ← Nat.pow_succ', show (p - 2).succ = p - 1 by omega]
    rw [e, ← F_mod, hf, F_mod, F_1]
  two h := by
    have e : (2 : Fin p) = F p 2 := rfl
    rw [e, dvd_F] at h
    exact absurd (Nat.le_of_dvd (by decide) h) (by omega)
/-- Polynomials modulo x^3 - 3 x + b, as three numbers; nb: p - b. -/
abbrev T3 := Nat × Nat × Nat
def m3 (p nb : Nat) : T3 → T3 → T3
  | (r0, r1, r2), (s0, s1, s2) =>
    ((r0 * s0 + nb * ((r1 * s2 + r2 * s1) % p)) % p, (r0 * s1 + r1 * s0 + 3 * (r1 * s2 + r2 * s1) + nb * (r2 * s2 % p)) % p, (r0 * s2 + r1 * s1 + r2 * s0 + 3 * (r2 * s2)) % p)
def sq3 (p nb : Nat) (r : T3) : T3 := m3 p nb r r
def pw3 (p nb : Nat) : Nat → Nat → T3
  | 0, _ => (1, 0, 0)
  | f + 1, k => if k % 2 = 0 then sq3 p nb (pw3 p nb f (k / 2)) else m3 p nb (sq3 p nb (pw3 p nb f (k / 2))) (0, 1, 0)
def ev (x : Fin p) (r : T3) : Fin p := F p r.1 + F p r.2.1 * x + F p r.2.2 * (x * x)
theorem F3 : F p 3 = 3 := rfl
theorem m3_ev {nb : Nat} {x : Fin p} (hx : x * x * x = 3 * x + F p nb) (r s : T3) : ev x (m3 p nb r s) = ev x r * ev x s := by
  obtain ⟨r0, r1, r2⟩ := r
  obtain ⟨s0, s1, s2⟩ := s
  unfold ev m3
  simp only [F_mod, F_add, F_mul, F3]
  generalize F p r0 = a0, F p r1 = a1, F p r2 = a2, F p s0 = b0, F p s1 = b1, F p s2 = b2, F p nb = n at *
  grobner
def fpw (x : Fin p) : Nat → Fin p
  | 0 => 1
  | k + 1 => fpw x k * x
theorem fpw_add (x : Fin p) (j k : Nat) : fpw x (j + k) = fpw x j * fpw x k := by
  induction k with
  | zero => show fpw x j = fpw x j * 1; grobner
  | succ k ih => show fpw x (j + k) * x = fpw x j * (fpw x k * x); rw [ih]; grobner
theorem fpw_F (x k : Nat) : fpw (F p x) k = F p (x ^ k) := by
  induction k with
  | zero => exact F_1.symm
  | succ k ih => rw [F_pow]; show fpw (F p x) k * _ = _; rw [ih]
theorem pw3_ev {nb : Nat} {x : Fin p} (hx : x * x * x = 3 * x + F p nb) (f k : Nat) (h : k < 2 ^ f) : ev x (pw3 p nb f k) = fpw x k := by
  induction f generalizing k with
  | zero =>
    have : k = 0 := by simpa using h
    subst this
    show F p 1 + F p 0 * x + F p 0 * (x * x) = 1
    rw [F_1, F_0]; grobner
  | succ f ih =>
    have e := ih (k / 2) (by rw [Nat.pow_succ] at h; omega)
    have eX : ev x (0, 1, 0) = x := by
      show F p 0 + F p 1 * x + F p 0 * (x * x) = x
      rw [F_1, F_0]; grobner
    unfold pw3 sq3
    split
    · rename_i h0
      rw [m3_ev hx, e, ← fpw_add]
      congr 1; omega
    · rename_i h0
      rw [m3_ev hx, m3_ev hx, e, eX, ← fpw_add]
      show fpw x (k / 2 + k / 2 + 1) = _
      congr 1; omega
/-- The cubic has no root where x^p - x has an inverse modulo it. -/
theorem no_root (hp : Pr p) {nb f : Nat} {R A : T3} (hf : p < 2 ^ f) (hR : pw3 p nb f p = R) (hA : m3 p nb A (R.1, R.2.1 + (p - 1), R.2.2) = (1, 0, 0)) (x : Fin p) : x * x * x ≠ 3 * x + F p nb := by
  intro hx
  have h1 := pw3_ev hx f p hf
  rw [hR] at h1
  have h2 : fpw x p = x := by
    conv => lhs; rw [← F_self x]
    rw [fpw_F, ← F_mod, fermat hp, F_mod, F_self]
  rw [h2] at h1
  have h3 := m3_ev hx A (R.1, R.2.1 + (p - 1), R.2.2)
  rw [hA] at h3
  have h4 : ev x (R.1, R.2.1 + (p - 1), R.2.2) = 0 := by
    unfold ev at h1 ⊢
    simp only [F_add] at *
    have e : F p (p - 1) + 1 = 0 := by rw [← F_1 (p := p), ← F_add, show p - 1 + 1 = p by have := hp.1; omega, F_p]
    grobner
  have h5 : ev x (1, 0, 0) = 1 := by
    show F p 1 + F p 0 * x + F p 0 * (x * x) = 1
    rw [F_1, F_0]; grobner
  rw [h4, h5] at h3
  have h6 : F p 1 = 0 := by rw [F_1]; grobner
  rw [dvd_F] at h6
  have := Nat.le_of_dvd (by decide) h6
  have := hp.1
  omega
end Go.Proofs.Ytkdclocjijmgpaa.Gl
/-
  Curves: the order times the base, by the kernel (pure).
-/
namespace Go.Proofs.Ytkdclocjijmgpaa.Gl
open Pm
/-- So many times a point, in three numbers: doubled and added. -/
def dbl (p : Nat) (t : T3) : T3 := jdb p t.1 t.2.1 t.2.2
def nm (p : Nat) (g : T3) : Nat → Nat → T3
  | 0, _ => (0, 0, 0)
  | f + 1, k => if k % 2 = 0 then dbl p (nm p g f (k / 2)) else jsm p (dbl p (nm p g f (k / 2))) g
theorem nm_lt {p : Nat} {g : T3} (h0 : 0 < p) (hg : Lt3 p g) (f k : Nat) : Lt3 p (nm p g f k) := by
  induction f generalizing k with
  | zero => exact ⟨h0, h0, h0⟩
  | succ f ih =>
    unfold nm
    split
    · exact jdb_lt h0
    · exact jsm_lt h0 (jdb_lt h0) hg
theorem nm_rp {p : Nat} [NeZero p] {c : Ec p} (hc : c.Ok) (ha : c.a + 3 = 0) {g : T3} (lg : Lt3 p g) {G : Pt p} (hG : c.On G) (rg : Rp g G) (f k : Nat) (h : k < 2 ^ f) : Rp (nm p g f k) (c.mul k G) := by
  have h0 := p_pos (p := p)
  induction f generalizing k with
  | zero =>
    have : k = 0 := by simpa using h
    subst this
    exact (rfl : (0 : Nat) = 0)
  | succ f ih =>
    have e := ih (k / 2) (by rw [Nat.pow_succ] at h; omega)
    have o := mul_on hc hG (k / 2)
    have d := jdb_rp hc ha (nm_lt h0 lg f (k / 2)) o e
    rw [← mul_add hc hG] at d
    unfold nm
    split
    · rename_i hk
      rw [show k / 2 + k / 2 = k by omega] at d
      exact d
    · rename_i hk
      have := jsm_rp hc ha (jdb_lt h0) lg (mul_on hc hG _) hG d rg
      have e1 : c.add (c.mul (k / 2 + k / 2) G) G = c.mul k G := by
        show c.mul (k / 2 + k / 2 + 1) G = _
        rw [show k / 2 + k / 2 + 1 = k by omega]
      rw [e1] at this
      exact this
theorem test256 : (nm c256.p (c256.gx, c256.gy, 1) 256 c256.n).2.2 = 0 := by decide +kernel
theorem test384 : (nm c384.p (c384.gx, c384.gy, 1) 384 c384.n).2.2 = 0 := by decide +kernel
def r256 : T3 := (66434390973925144466073271287821796038003695194169110494110089305650096453661, 12402202686218762177567235911775779164004716598278868847786114277539554646092, 24678849118215552148312087830792888746041224110560601850711771001608500700145)
def i256 : T3 := (76626890310466861426869089647039036757962535851890885406097439786770458211455, 74462945259064871768191128030512052509059297803194871526163573358218695456204, 34768139465301476436978405170953382516735956999154666452188405812258086013549)
def r384 : T3 := (8300902441410358810024883245706595788071887638472987429650051756787010122663664392654234716054658334410824607717835, 36451842499335230207230939190122359435795929611070366073564430331459357452117665764765104949638877581977396150453386, 15550551877492060201127078427218509008503925815996229619149120823729355824416602968196515686102139833725391182697242)
def i384 : T3 := (23037766613497683937702734290281044719364893268180251583910224888989381657771069200037813904257325918671976092329602, 8235438212423615602427778915669574859600037698862346933589434399495169446996583974901273360826717582835190849638831, 12157362177932134139146813183752135342286725243554133716818896354380897714709611791313184492360272402950851405460538)
theorem cub256 : pw3 c256.p (c256.p - c256.b) 256 c256.p = r256 := by decide +kernel
theorem inv256 : m3 c256.p (c256.p - c256.b) i256 (r256.1, r256.2.1 + (c256.p - 1), r256.2.2) = (1, 0, 0) := by decide +kernel
theorem cub384 : pw3 c384.p (c384.p - c384.b) 384 c384.p = r384 := by decide +kernel
theorem inv384 : m3 c384.p (c384.p - c384.b) i384 (r384.1, r384.2.1 + (c384.p - 1), r384.2.2) = (1, 0, 0) := by decide +kernel
end Go.Proofs.Ytkdclocjijmgpaa.Gl
/-
  Numbers that are primes.
-/
namespace Go.Proofs.Ytkdclocjijmgpaa.Pm
theorem cr1_417 : Pr 6700417 := pr_td _ 2590 (by decide) (by decide +kernel)
theorem cr2_463 : Pr 490463 := pr_td _ 702 (by decide) (by decide +kernel)
theorem cr3_537 : Pr 65537 := pr_td _ 258 (by decide) (by decide +kernel)
theorem cr4_531 : Pr 1531 := pr_td _ 41 (by decide) (by decide +kernel)
theorem cr5_641 : Pr 641 := pr_td _ 27 (by decide) (by decide +kernel)
theorem cr6_257 : Pr 257 := pr_td _ 18 (by decide) (by decide +kernel)
theorem cr7_17 : Pr 17 := pr_td _ 6 (by decide) (by decide +kernel)
theorem cr8_5 : Pr 5 := pr_td _ 4 (by decide) (by decide +kernel)
theorem cr9_3 : Pr 3 := pr_td _ 3 (by decide) (by decide +kernel)
theorem cr10_2 : Pr 2 := pr_td _ 3 (by decide) (by decide +kernel)
theorem cr0_951_w : pw 115792089210356248762697446949407573530086143415290314195533631308867097853951 6 256 (115792089210356248762697446949407573530086143415290314195533631308867097853951 - 1) = 1 := by decide +kernel
theorem cr0_951_F (r : Nat) (hr : Pr r) (hd : r ∣ 115792089210356248762697446949407573530086143415290314195533631308867097853951) : 138516389665330497628477975950 ∣ r - 1 := by
  have h0 : 6700417 ^ 1 ∣ r - 1 := pock1' (N := 115792089210356248762697446949407573530086143415290314195533631308867097853951) (a := 6) (q := 6700417) (e := 1) (f := 256) (by decide +kernel) (by decide) hr hd (by decide) cr1_417 (by decide +kernel) cr0_951_w (by decide +kernel)
  have h1 : 490463 ^ 1 ∣ r - 1 := pock1' (N := 115792089210356248762697446949407573530086143415290314195533631308867097853951) (a := 6) (q := 490463) (e := 1) (f := 256) (by decide +kernel) (by decide) hr hd (by decide) cr2_463 (by decide +kernel) cr0_951_w (by decide +kernel)
  have h2 : 65537 ^ 1 ∣ r - 1 := pock1' (N := 115792089210356248762697446949407573530086143415290314195533631308867097853951) (a := 6) (q := 65537) (e := 1) (f := 256) (by decide +kernel) (by decide) hr hd (by decide) cr3_537 (by decide +kernel) cr0_951_w (by decide +kernel)
  have h3 : 1531 ^ 1 ∣ r - 1 := pock1' (N := 115792089210356248762697446949407573530086143415290314195533631308867097853951) (a := 6) (q := 1531) (e := 1) (f := 256) (by decide +kernel) (by decide) hr hd (by decide) cr4_531 (by decide +kernel) cr0_951_w (by decide +kernel)
  have h4 : 641 ^ 1 ∣ r - 1 := pock1' (N := 115792089210356248762697446949407573530086143415290314195533631308867097853951) (a := 6) (q := 641) (e := 1) (f := 256) (by decide +kernel) (by decide) hr hd (by decide) cr5_641 (by decide +kernel) cr0_951_w (by decide +kernel)
  have h5 : 257 ^ 1 ∣ r - 1 := pock1' (N := 115792089210356248762697446949407573530086143415290314195533631308867097853951) (a := 6) (q := 257) (e := 1) (f := 256) (by decide +kernel) (by decide) hr hd (by decide) cr6_257 (by decide +kernel) cr0_951_w (by decide +kernel)
  have h6 : 17 ^ 1 ∣ r - 1 := pock1' (N := 115792089210356248762697446949407573530086143415290314195533631308867097853951) (a := 6) (q := 17) (e := 1) (f := 256) (by decide +kernel) (by decide) hr hd (by decide) cr7_17 (by decide +kernel) cr0_951_w (by decide +kernel)
  have h7 : 5 ^ 2 ∣ r - 1 := pock1' (N := 115792089210356248762697446949407573530086143415290314195533631308867097853951) (a := 6) (q := 5) (e := 2) (f := 256) (by decide +kernel) (by decide) hr hd (by decide) cr8_5 (by decide +kernel) cr0_951_w (by decide +kernel)
  have h8 : 3 ^ 1 ∣ r - 1 := pock1' (N := 115792089210356248762697446949407573530086143415290314195533631308867097853951) (a := 6) (q := 3) (e := 1) (f := 256) (by decide +kernel) (by decide) hr hd (by decide) cr9_3 (by decide +kernel) cr0_951_w (by decide +kernel)
  have h9 : 2 ^ 1 ∣ r - 1 := pock1' (N := 115792089210356248762697446949407573530086143415290314195533631308867097853951) (a := 6) (q := 2) (e := 1) (f := 256) (by decide +kernel) (by decide) hr hd (by decide) cr10_2 (by decide +kernel) cr0_951_w (by decide +kernel)
  have g0 : 6700417 ∣ r - 1 := h0
  have k1 : 490463 ∣ r - 1 := h1
  have g1 : 6700417 * 490463 ∣ r - 1 := Nat.Coprime.mul_dvd_of_dvd_of_dvd (by decide +kernel) g0 k1
  replace g1 : 3286306623071 ∣ r - 1 := g1
  have k2 : 65537 ∣ r - 1 := h2
  have g2 : 3286306623071 * 65537 ∣ r - 1 := Nat.Coprime.mul_dvd_of_dvd_of_dvd (by decide +kernel) g1 k2
  replace g2 : 215374677156204127 ∣ r - 1 := g2
  have k3 : 1531 ∣ r - 1 := h3
  have g3 : 215374677156204127 * 1531 ∣ r - 1 := Nat.Coprime.mul_dvd_of_dvd_of_dvd (by decide +kernel) g2 k3
  replace g3 : 329738630726148518437 ∣ r - 1 := g3
  have k4 : 641 ∣ r - 1 := h4
  have g4 : 329738630726148518437 * 641 ∣ r - 1 := Nat.Coprime.mul_dvd_of_dvd_of_dvd (by decide +kernel) g3 k4
  replace g4 : 211362462295461200318117 ∣ r - 1 := g4
  have k5 : 257 ∣ r - 1 := h5
  have g5 : 211362462295461200318117 * 257 ∣ r - 1 := Nat.Coprime.mul_dvd_of_dvd_of_dvd (by decide +kernel) g4 k5
  replace g5 : 54320152809933528481756069 ∣ r - 1 := g5
  have k6 : 17 ∣ r - 1 := h6
  have g6 : 54320152809933528481756069 * 17 ∣ r - 1 := Nat.Coprime.mul_dvd_of_dvd_of_dvd (by decide +kernel) g5 k6
  replace g6 : 923442597768869984189853173 ∣ r - 1 := g6
  have k7 : 25 ∣ r - 1 := h7
  have g7 : 923442597768869984189853173 * 25 ∣ r - 1 := Nat.Coprime.mul_dvd_of_dvd_of_dvd (by decide +kernel) g6 k7
  replace g7 : 23086064944221749604746329325 ∣ r - 1 := g7
  have k8 : 3 ∣ r - 1 := h8
  have g8 : 23086064944221749604746329325 * 3 ∣ r - 1 := Nat.Coprime.mul_dvd_of_dvd_of_dvd (by decide +kernel) g7 k8
  replace g8 : 69258194832665248814238987975 ∣ r - 1 := g8
  have k9 : 2 ∣ r - 1 := h9
  have g9 : 69258194832665248814238987975 * 2 ∣ r - 1 := Nat.Coprime.mul_dvd_of_dvd_of_dvd (by decide +kernel) g8 k9
  exact g9
theorem cr0_951 : Pr 115792089210356248762697446949407573530086143415290314195533631308867097853951 := pock3 (F := 138516389665330497628477975950) (c1 := 128950946036093660256175050241) (c2 := 6034990113908845660) (s := 128950946036093660256175050240) (by decide) cr0_951_F (by decide +kernel) (by decide +kernel) (by decide) (by decide +kernel) (.inr ⟨by decide +kernel, by decide +kernel⟩)
theorem cr16_661 : Pr 661 := pr_td _ 27 (by decide) (by decide +kernel)
theorem cr17_599 : Pr 599 := pr_td _ 26 (by decide) (by decide +kernel)
theorem cr15_823_w : pw 513928823 2 29 (513928823 - 1) = 1 := by decide +kernel
theorem cr15_823_F (r : Nat) (hr : Pr r) (hd : r ∣ 513928823) : 395939 ∣ r - 1 := by
  have h0 : 661 ^ 1 ∣ r - 1 := pock1' (N := 513928823) (a := 2) (q := 661) (e := 1) (f := 29) (by decide +kernel) (by decide) hr hd (by decide) cr16_661 (by decide +kernel) cr15_823_w (by decide +kernel)
  have h1 : 599 ^ 1 ∣ r - 1 := pock1' (N := 513928823) (a := 2) (q := 599) (e := 1) (f := 29) (by decide +kernel) (by decide) hr hd (by decide) cr17_599 (by decide +kernel) cr15_823_w (by decide +kernel)
  have g0 : 661 ∣ r - 1 := h0
  have k1 : 599 ∣ r - 1 := h1
  have g1 : 661 * 599 ∣ r - 1 := Nat.Coprime.mul_dvd_of_dvd_of_dvd (by decide +kernel) g0 k1
  exact g1
theorem cr15_823 : Pr 513928823 := pock2 (F := 395939) (by decide) cr15_823_F (by decide +kernel)
theorem cr14_593_w : pw 53448597593 2 36 (53448597593 - 1) = 1 := by decide +kernel
theorem cr14_593_F (r : Nat) (hr : Pr r) (hd : r ∣ 53448597593) : 513928823 ∣ r - 1 := by
  have h0 : 513928823 ^ 1 ∣ r - 1 := pock1' (N := 53448597593) (a := 2) (q := 513928823) (e := 1) (f := 36) (by decide +kernel) (by decide) hr hd (by decide) cr15_823 (by decide +kernel) cr14_593_w (by decide +kernel)
  have g0 : 513928823 ∣ r - 1 := h0
  exact g0
theorem cr14_593 : Pr 53448597593 := pock2 (F := 513928823) (by decide) cr14_593_F (by decide +kernel)
theorem cr13_621_w : pw 1357291859799823621 2 61 (1357291859799823621 - 1) = 1 := by decide +kernel
theorem cr13_621_F (r : Nat) (hr : Pr r) (hd : r ∣ 1357291859799823621) : 53448597593 ∣ r - 1 := by
  have h0 : 53448597593 ^ 1 ∣ r - 1 := pock1' (N := 1357291859799823621) (a := 2) (q := 53448597593) (e := 1) (f := 61) (by decide +kernel) (by decide) hr hd (by decide) cr14_593 (by decide +kernel) cr13_621_w (by decide +kernel)
  have g0 : 53448597593 ∣ r - 1 := h0
  exact g0
theorem cr13_621 : Pr 1357291859799823621 := pock2 (F := 53448597593) (by decide) cr13_621_F (by decide +kernel)
theorem cr18_289 : Pr 312289 := pr_td _ 560 (by decide) (by decide +kernel)
theorem cr19_557 : Pr 38557 := pr_td _ 198 (by decide) (by decide +kernel)
theorem cr20_389 : Pr 8389 := pr_td _ 93 (by decide) (by decide +kernel)
theorem cr21_11 : Pr 11 := pr_td _ 5 (by decide) (by decide +kernel)
theorem cr12_97_w : pw 19173790298027098165721053155794528970226934547887232785722672956982046098136719667167519737147526097 3 334 (19173790298027098165721053155794528970226934547887232785722672956982046098136719667167519737147526097 - 1) = 1 := by decide +kernel
theorem cr12_97_F (r : Nat) (hr : Pr r) (hd : r ∣ 19173790298027098165721053155794528970226934547887232785722672956982046098136719667167519737147526097) : 2919721308762696059271802914099725552 ∣ r - 1 := by
  have h0 : 1357291859799823621 ^ 1 ∣ r - 1 := pock1' (N := 19173790298027098165721053155794528970226934547887232785722672956982046098136719667167519737147526097) (a := 3) (q := 1357291859799823621) (e := 1) (f := 334) (by decide +kernel) (by decide) hr hd (by decide) cr13_621 (by decide +kernel) cr12_97_w (by decide +kernel)
  have h1 : 312289 ^ 1 ∣ r - 1 := pock1' (N := 19173790298027098165721053155794528970226934547887232785722672956982046098136719667167519737147526097) (a := 3) (q := 312289) (e := 1) (f := 334) (by decide +kernel) (by decide) hr hd (by decide) cr18_289 (by decide +kernel) cr12_97_w (by decide +kernel)
  have h2 : 38557 ^ 1 ∣ r - 1 := pock1' (N := 19173790298027098165721053155794528970226934547887232785722672956982046098136719667167519737147526097) (a := 3) (q := 38557) (e := 1) (f := 334) (by decide +kernel) (by decide) hr hd (by decide) cr19_557 (by decide +kernel) cr12_97_w (by decide +kernel)
  have h3 : 8389 ^ 1 ∣ r - 1 := pock1' (N := 19173790298027098165721053155794528970226934547887232785722672956982046098136719667167519737147526097) (a := 3) (q := 8389) (e := 1) (f := 334) (by decide +kernel) (by decide) hr hd (by decide) cr20_389 (by decide +kernel) cr12_97_w (by decide +kernel)
  have h4 : 11 ^ 3 ∣ r - 1 := pock1' (N := 19173790298027098165721053155794528970226934547887232785722672956982046098136719667167519737147526097) (a := 3) (q := 11) (e := 3) (f := 334) (by decide +kernel) (by decide) hr hd (by decide) cr21_11 (by decide +kernel) cr12_97_w (by decide +kernel)
  have h5 : 2 ^ 4 ∣ r - 1 := pock1' (N := 19173790298027098165721053155794528970226934547887232785722672956982046098136719667167519737147526097) (a := 3) (q := 2) (e := 4) (f := 334) (by decide +kernel) (by decide) hr hd (by decide) cr10_2 (by decide +kernel) cr12_97_w (by decide +kernel)
  have g0 : 1357291859799823621 ∣ r - 1 := h0
  have k1 : 312289 ∣ r - 1 := h1
  have g1 : 1357291859799823621 * 312289 ∣ r - 1 := Nat.Coprime.mul_dvd_of_dvd_of_dvd (by decide +kernel) g0 k1
  replace g1 : 423867317605027118778469 ∣ r - 1 := g1
  have k2 : 38557 ∣ r - 1 := h2
  have g2 : 423867317605027118778469 * 38557 ∣ r - 1 := Nat.Coprime.mul_dvd_of_dvd_of_dvd (by decide +kernel) g1 k2
  replace g2 : 16343052164897030618741429233 ∣ r - 1 := g2
  have k3 : 8389 ∣ r - 1 := h3
  have g3 : 16343052164897030618741429233 * 8389 ∣ r - 1 := Nat.Coprime.mul_dvd_of_dvd_of_dvd (by decide +kernel) g2 k3
  replace g3 : 137101864611321189860621849835637 ∣ r - 1 := g3
  have k4 : 1331 ∣ r - 1 := h4
  have g4 : 137101864611321189860621849835637 * 1331 ∣ r - 1 := Nat.Coprime.mul_dvd_of_dvd_of_dvd (by decide +kernel) g3 k4
  replace g4 : 182482581797668503704487682131232847 ∣ r - 1 := g4
  have k5 : 16 ∣ r - 1 := h5
  have g5 : 182482581797668503704487682131232847 * 16 ∣ r - 1 := Nat.Coprime.mul_dvd_of_dvd_of_dvd (by decide +kernel) g4 k5
  exact g5
theorem cr12_97 : Pr 19173790298027098165721053155794528970226934547887232785722672956982046098136719667167519737147526097 := pock3 (F := 2919721308762696059271802914099725552) (c1 := 1685075156491733192729263119441357571) (c2 := 2249184978384754134466564301) (s := 1685075156491733192729263119441357570) (by decide) cr12_97_F (by decide +kernel) (by decide +kernel) (by decide) (by decide +kernel) (.inr ⟨by decide +kernel, by decide +kernel⟩)
theorem cr11_319_w : pw 39402006196394479212279040100143613805079739270465446667948293404245721771496870329047266088258938001861606973112319 2 384 (39402006196394479212279040100143613805079739270465446667948293404245721771496870329047266088258938001861606973112319 - 1) = 1 := by decide +kernel
theorem cr11_319_F (r : Nat) (hr : Pr r) (hd : r ∣ 39402006196394479212279040100143613805079739270465446667948293404245721771496870329047266088258938001861606973112319) : 19173790298027098165721053155794528970226934547887232785722672956982046098136719667167519737147526097 ∣ r - 1 := by
  have h0 : 19173790298027098165721053155794528970226934547887232785722672956982046098136719667167519737147526097 ^ 1 ∣ r - 1 := pock1' (N := 39402006196394479212279040100143613805079739270465446667948293404245721771496870329047266088258938001861606973112319) (a := 2) (q := 19173790298027098165721053155794528970226934547887232785722672956982046098136719667167519737147526097) (e := 1) (f := 384) (by decide +kernel) (by decide) hr hd (by decide) cr12_97 (by decide +kernel) cr11_319_w (by decide +kernel)
  have g0 : 19173790298027098165721053155794528970226934547887232785722672956982046098136719667167519737147526097 ∣ r - 1 := h0
  exact g0
theorem cr11_319 : Pr 39402006196394479212279040100143613805079739270465446667948293404245721771496870329047266088258938001861606973112319 := pock2 (F := 19173790298027098165721053155794528970226934547887232785722672956982046098136719667167519737147526097) (by decide) cr11_319_F (by decide +kernel)
theorem cr24_987 : Pr 9350987 := pr_td _ 3059 (by decide) (by decide +kernel)
theorem cr23_741_w : pw 187019741 2 28 (187019741 - 1) = 1 := by decide +kernel
theorem cr23_741_F (r : Nat) (hr : Pr r) (hd : r ∣ 187019741) : 9350987 ∣ r - 1 := by
  have h0 : 9350987 ^ 1 ∣ r - 1 := pock1' (N := 187019741) (a := 2) (q := 9350987) (e := 1) (f := 28) (by decide +kernel) (by decide) hr hd (by decide) cr24_987 (by decide +kernel) cr23_741_w (by decide +kernel)
  have g0 : 9350987 ∣ r - 1 := h0
  exact g0
theorem cr23_741 : Pr 187019741 := pock2 (F := 9350987) (by decide) cr23_741_F (by decide +kernel)
theorem cr25_189 : Pr 38189 := pr_td _ 197 (by decide) (by decide +kernel)
theorem cr26_449 : Pr 17449 := pr_td _ 134 (by decide) (by decide +kernel)
theorem cr27_407 : Pr 3407 := pr_td _ 60 (by decide) (by decide +kernel)
theorem cr28_373 : Pr 373 := pr_td _ 21 (by decide) (by decide +kernel)
theorem cr29_131 : Pr 131 := pr_td _ 13 (by decide) (by decide +kernel)
theorem cr30_71 : Pr 71 := pr_td _ 10 (by decide) (by decide +kernel)
theorem cr22_369_w : pw 115792089210356248762697446949407573529996955224135760342422259061068512044369 7 256 (115792089210356248762697446949407573529996955224135760342422259061068512044369 - 1) = 1 := by decide +kernel
theorem cr22_369_F (r : Nat) (hr : Pr r) (hd : r ∣ 115792089210356248762697446949407573529996955224135760342422259061068512044369) : 70704674500239818223196277328 ∣ r - 1 := by
  have h0 : 187019741 ^ 1 ∣ r - 1 := pock1' (N := 115792089210356248762697446949407573529996955224135760342422259061068512044369) (a := 7) (q := 187019741) (e := 1) (f := 256) (by decide +kernel) (by decide) hr hd (by decide) cr23_741 (by decide +kernel) cr22_369_w (by decide +kernel)
  have h1 : 38189 ^ 1 ∣ r - 1 := pock1' (N := 115792089210356248762697446949407573529996955224135760342422259061068512044369) (a := 7) (q := 38189) (e := 1) (f := 256) (by decide +kernel) (by decide) hr hd (by decide) cr25_189 (by decide +kernel) cr22_369_w (by decide +kernel)
  have h2 : 17449 ^ 1 ∣ r - 1 := pock1' (N := 115792089210356248762697446949407573529996955224135760342422259061068512044369) (a := 7) (q := 17449) (e := 1) (f := 256) (by decide +kernel) (by decide) hr hd (by decide) cr26_449 (by decide +kernel) cr22_369_w (by decide +kernel)
  have h3 : 3407 ^ 1 ∣ r - 1 := pock1' (N := 115792089210356248762697446949407573529996955224135760342422259061068512044369) (a := 7) (q := 3407) (e := 1) (f := 256) (by decide +kernel) (by decide) hr hd (by decide) cr27_407 (by decide +kernel) cr22_369_w (by decide +kernel)
  have h4 : 373 ^ 1 ∣ r - 1 := pock1' (N := 115792089210356248762697446949407573529996955224135760342422259061068512044369) (a := 7) (q := 373) (e := 1) (f := 256) (by decide +kernel) (by decide) hr hd (by decide) cr28_373 (by decide +kernel) cr22_369_w (by decide +kernel)
  have h5 : 131 ^ 1 ∣ r - 1 := pock1' (N := 115792089210356248762697446949407573529996955224135760342422259061068512044369) (a := 7) (q := 131) (e := 1) (f := 256) (by decide +kernel) (by decide) hr hd (by decide) cr29_131 (by decide +kernel) cr22_369_w (by decide +kernel)
  have h6 : 71 ^ 1 ∣ r - 1 := pock1' (N := 115792089210356248762697446949407573529996955224135760342422259061068512044369) (a := 7) (q := 71) (e := 1) (f := 256) (by decide +kernel) (by decide) hr hd (by decide) cr30_71 (by decide +kernel) cr22_369_w (by decide +kernel)
  have h7 : 3 ^ 1 ∣ r - 1 := pock1' (N := 115792089210356248762697446949407573529996955224135760342422259061068512044369) (a := 7) (q := 3) (e := 1) (f := 256) (by decide +kernel) (by decide) hr hd (by decide) cr9_3 (by decide +kernel) cr22_369_w (by decide +kernel)
  have h8 : 2 ^ 4 ∣ r - 1 := pock1' (N := 115792089210356248762697446949407573529996955224135760342422259061068512044369) (a := 7) (q := 2) (e := 4) (f := 256) (by decide +kernel) (by decide) hr hd (by decide) cr10_2 (by decide +kernel) cr22_369_w (by decide +kernel)
  have g0 : 187019741 ∣ r - 1 := h0
  have k1 : 38189 ∣ r - 1 := h1
  have g1 : 187019741 * 38189 ∣ r - 1 := Nat.Coprime.mul_dvd_of_dvd_of_dvd (by decide +kernel) g0 k1
  replace g1 : 7142096889049 ∣ r - 1 := g1
  have k2 : 17449 ∣ r - 1 := h2
  have g2 : 7142096889049 * 17449 ∣ r - 1 := Nat.Coprime.mul_dvd_of_dvd_of_dvd (by decide +kernel) g1 k2
  replace g2 : 124622448617016001 ∣ r - 1 := g2
  have k3 : 3407 ∣ r - 1 := h3
  have g3 : 124622448617016001 * 3407 ∣ r - 1 := Nat.Coprime.mul_dvd_of_dvd_of_dvd (by decide +kernel) g2 k3
  replace g3 : 424588682438173515407 ∣ r - 1 := g3
  have k4 : 373 ∣ r - 1 := h4
  have g4 : 424588682438173515407 * 373 ∣ r - 1 := Nat.Coprime.mul_dvd_of_dvd_of_dvd (by decide +kernel) g3 k4
  replace g4 : 158371578549438721246811 ∣ r - 1 := g4
  have k5 : 131 ∣ r - 1 := h5
  have g5 : 158371578549438721246811 * 131 ∣ r - 1 := Nat.Coprime.mul_dvd_of_dvd_of_dvd (by decide +kernel) g4 k5
  replace g5 : 20746676789976472483332241 ∣ r - 1 := g5
  have k6 : 71 ∣ r - 1 := h6
  have g6 : 20746676789976472483332241 * 71 ∣ r - 1 := Nat.Coprime.mul_dvd_of_dvd_of_dvd (by decide +kernel) g5 k6
  replace g6 : 1473014052088329546316589111 ∣ r - 1 := g6
  have k7 : 3 ∣ r - 1 := h7
  have g7 : 1473014052088329546316589111 * 3 ∣ r - 1 := Nat.Coprime.mul_dvd_of_dvd_of_dvd (by decide +kernel) g6 k7
  replace g7 : 4419042156264988638949767333 ∣ r - 1 := g7
  have k8 : 16 ∣ r - 1 := h8
  have g8 : 4419042156264988638949767333 * 16 ∣ r - 1 := Nat.Coprime.mul_dvd_of_dvd_of_dvd (by decide +kernel) g7 k8
  exact g8
theorem cr22_369 : Pr 115792089210356248762697446949407573529996955224135760342422259061068512044369 := pock3 (F := 70704674500239818223196277328) (c1 := 64372241585573992917195503041) (c2 := 23162350826915169255) (s := 64372241585573992917195503040) (by decide) cr22_369_F (by decide +kernel) (by decide +kernel) (by decide) (by decide +kernel) (.inr ⟨by decide +kernel, by decide +kernel⟩)
theorem cr36_677 : Pr 9863677 := pr_td _ 3142 (by decide) (by decide +kernel)
theorem cr35_931_w : pw 37344768852931 2 46 (37344768852931 - 1) = 1 := by decide +kernel
theorem cr35_931_F (r : Nat) (hr : Pr r) (hd : r ∣ 37344768852931) : 9863677 ∣ r - 1 := by
  have h0 : 9863677 ^ 1 ∣ r - 1 := pock1' (N := 37344768852931) (a := 2) (q := 9863677) (e := 1) (f := 46) (by decide +kernel) (by decide) hr hd (by decide) cr36_677 (by decide +kernel) cr35_931_w (by decide +kernel)
  have g0 : 9863677 ∣ r - 1 := h0
  exact g0
theorem cr35_931 : Pr 37344768852931 := pock2 (F := 9863677) (by decide) cr35_931_F (by decide +kernel)
theorem cr34_639_w : pw 55942463741690639 2 56 (55942463741690639 - 1) = 1 := by decide +kernel
theorem cr34_639_F (r : Nat) (hr : Pr r) (hd : r ∣ 55942463741690639) : 37344768852931 ∣ r - 1 := by
  have h0 : 37344768852931 ^ 1 ∣ r - 1 := pock1' (N := 55942463741690639) (a := 2) (q := 37344768852931) (e := 1) (f := 56) (by decide +kernel) (by decide) hr hd (by decide) cr35_931 (by decide +kernel) cr34_639_w (by decide +kernel)
  have g0 : 37344768852931 ∣ r - 1 := h0
  exact g0
theorem cr34_639 : Pr 55942463741690639 := pock2 (F := 37344768852931) (by decide) cr34_639_F (by decide +kernel)
theorem cr37_23 : Pr 8463023 := pr_td _ 2911 (by decide) (by decide +kernel)
theorem cr38_431 : Pr 248431 := pr_td _ 500 (by decide) (by decide +kernel)
theorem cr39_251 : Pr 251 := pr_td _ 17 (by decide) (by decide +kernel)
theorem cr33_307_w : pw 1059392654943455286185473617842338478315215895509773412096307 2 200 (1059392654943455286185473617842338478315215895509773412096307 - 1) = 1 := by decide +kernel
theorem cr33_307_F (r : Nat) (hr : Pr r) (hd : r ∣ 1059392654943455286185473617842338478315215895509773412096307) : 29522057326274342908967808379157 ∣ r - 1 := by
  have h0 : 55942463741690639 ^ 1 ∣ r - 1 := pock1' (N := 1059392654943455286185473617842338478315215895509773412096307) (a := 2) (q := 55942463741690639) (e := 1) (f := 200) (by decide +kernel) (by decide) hr hd (by decide) cr34_639 (by decide +kernel) cr33_307_w (by decide +kernel)
  have h1 : 8463023 ^ 1 ∣ r - 1 := pock1' (N := 1059392654943455286185473617842338478315215895509773412096307) (a := 2) (q := 8463023) (e := 1) (f := 200) (by decide +kernel) (by decide) hr hd (by decide) cr37_23 (by decide +kernel) cr33_307_w (by decide +kernel)
  have h2 : 248431 ^ 1 ∣ r - 1 := pock1' (N := 1059392654943455286185473617842338478315215895509773412096307) (a := 2) (q := 248431) (e := 1) (f := 200) (by decide +kernel) (by decide) hr hd (by decide) cr38_431 (by decide +kernel) cr33_307_w (by decide +kernel)
  have h3 : 251 ^ 1 ∣ r - 1 := pock1' (N := 1059392654943455286185473617842338478315215895509773412096307) (a := 2) (q := 251) (e := 1) (f := 200) (by decide +kernel) (by decide) hr hd (by decide) cr39_251 (by decide +kernel) cr33_307_w (by decide +kernel)
  have g0 : 55942463741690639 ∣ r - 1 := h0
  have k1 : 8463023 ∣ r - 1 := h1
  have g1 : 55942463741690639 * 8463023 ∣ r - 1 := Nat.Coprime.mul_dvd_of_dvd_of_dvd (by decide +kernel) g0 k1
  replace g1 : 473442357322593936741697 ∣ r - 1 := g1
  have k2 : 248431 ∣ r - 1 := h2
  have g2 : 473442357322593936741697 * 248431 ∣ r - 1 := Nat.Coprime.mul_dvd_of_dvd_of_dvd (by decide +kernel) g1 k2
  replace g2 : 117617758272009334298676527407 ∣ r - 1 := g2
  have k3 : 251 ∣ r - 1 := h3
  have g3 : 117617758272009334298676527407 * 251 ∣ r - 1 := Nat.Coprime.mul_dvd_of_dvd_of_dvd (by decide +kernel) g2 k3
  exact g3
theorem cr33_307 : Pr 1059392654943455286185473617842338478315215895509773412096307 := pock2 (F := 29522057326274342908967808379157) (by decide) cr33_307_F (by decide +kernel)
theorem cr32_471_w : pw 3055465788140352002733946906144561090641249606160407884365391979704929268480326390471 2 281 (3055465788140352002733946906144561090641249606160407884365391979704929268480326390471 - 1) = 1 := by decide +kernel
theorem cr32_471_F (r : Nat) (hr : Pr r) (hd : r ∣ 3055465788140352002733946906144561090641249606160407884365391979704929268480326390471) : 1059392654943455286185473617842338478315215895509773412096307 ∣ r - 1 := by
  have h0 : 1059392654943455286185473617842338478315215895509773412096307 ^ 1 ∣ r - 1 := pock1' (N := 3055465788140352002733946906144561090641249606160407884365391979704929268480326390471) (a := 2) (q := 1059392654943455286185473617842338478315215895509773412096307) (e := 1) (f := 281) (by decide +kernel) (by decide) hr hd (by decide) cr33_307 (by decide +kernel) cr32_471_w (by decide +kernel)
  have g0 : 1059392654943455286185473617842338478315215895509773412096307 ∣ r - 1 := h0
  exact g0
theorem cr32_471 : Pr 3055465788140352002733946906144561090641249606160407884365391979704929268480326390471 := pock2 (F := 1059392654943455286185473617842338478315215895509773412096307) (by decide) cr32_471_F (by decide +kernel)
theorem cr31_643_w : pw 39402006196394479212279040100143613805079739270465446667946905279627659399113263569398956308152294913554433653942643 2 384 (39402006196394479212279040100143613805079739270465446667946905279627659399113263569398956308152294913554433653942643 - 1) = 1 := by decide +kernel
theorem cr31_643_F (r : Nat) (hr : Pr r) (hd : r ∣ 39402006196394479212279040100143613805079739270465446667946905279627659399113263569398956308152294913554433653942643) : 3055465788140352002733946906144561090641249606160407884365391979704929268480326390471 ∣ r - 1 := by
  have h0 : 3055465788140352002733946906144561090641249606160407884365391979704929268480326390471 ^ 1 ∣ r - 1 := pock1' (N := 39402006196394479212279040100143613805079739270465446667946905279627659399113263569398956308152294913554433653942643) (a := 2) (q := 3055465788140352002733946906144561090641249606160407884365391979704929268480326390471) (e := 1) (f := 384) (by decide +kernel) (by decide) hr hd (by decide) cr32_471 (by decide +kernel) cr31_643_w (by decide +kernel)
  have g0 : 3055465788140352002733946906144561090641249606160407884365391979704929268480326390471 ∣ r - 1 := h0
  exact g0
theorem cr31_643 : Pr 39402006196394479212279040100143613805079739270465446667946905279627659399113263569398956308152294913554433653942643 := pock2 (F := 3055465788140352002733946906144561090641249606160407884365391979704929268480326390471) (by decide) cr31_643_F (by decide +kernel)
end Go.Proofs.Ytkdclocjijmgpaa.Pm
/-
  Curves: both curves are good, and what follows (pure).
-/
namespace Go.Proofs.Ytkdclocjijmgpaa.Gl
open Pm
/-- The curve of given numbers, its base. -/
def ec (C : Cv) [NeZero C.p] : Ec C.p := ⟨F C.p (C.p - 3), F C.p C.b⟩
def gen (C : Cv) [NeZero C.p] : Pt C.p := some (F C.p C.gx, F C.p C.gy)
/-- What is known of both curves. -/
structure Cok (C : Cv) [NeZero C.p] : Prop where
  ok : (ec C).Ok
  a3 : (ec C).a + 3 = 0
  b0 : (ec C).b ≠ 0
  p3 : 3 < C.p
  bp : C.b < C.p
  np : 2 * C.p + 1 < 3 * C.n
  gl : C.gx < C.p ∧ C.gy < C.p
  onG : (ec C).On (gen C)
  prp : Pr C.p
  prn : Pr C.n
  ordG : (ec C).mul C.n (gen C) = none
  hno : ∀ x : Fin C.p, x * x * x + (ec C).a * x + (ec C).b ≠ 0
theorem cok_of (C : Cv) [NeZero C.p] (hp : Pr C.p) (hn : Pr C.n) (h3 : 3 < C.p) (hb : C.b < C.p) (np : 2 * C.p + 1 < 3 * C.n) (gl : C.gx < C.p ∧ C.gy < C.p) {f : Nat} {R A : T3} (hf : C.p < 2 ^ f) (hR : pw3 C.p (C.p - C.b) f C.p = R) (hA : m3 C.p (C.p - C.b) A (R.1, R.2.1 + (C.p - 1), R.2.2) = (1, 0, 0))
    (hon : C.gy * C.gy % C.p = (C.gx * C.gx * C.gx + (C.p - 3) * C.gx + C.b) % C.p) (hfn : C.n < 2 ^ f) (hG : (nm C.p (C.gx, C.gy, 1) f C.n).2.2 = 0) : Cok C := by
  have hx : ∀ x : Fin C.p, x * x * x + (ec C).a * x + (ec C).b ≠ 0 := by
    intro x h
    refine no_root hp hf hR hA x ?_
    have e1 : F C.p (C.p - C.b) + F C.p C.b = 0 := by rw [← F_add, show C.p - C.b + C.b = C.p by omega, F_p]
    have e2 : F C.p (C.p - 3) + F C.p 3 = 0 := by rw [← F_add, show C.p - 3 + 3 = C.p by omega, F_p]
    rw [F3] at e2
    change x * x * x + F C.p (C.p - 3) * x + F C.p C.b = 0 at h
    generalize F C.p (C.p - 3) = a at *
    generalize F C.p (C.p - C.b) = nb at *
    generalize F C.p C.b = b at *
    grobner
  have a3 : (ec C).a + 3 = 0 := by
    show F C.p (C.p - 3) + 3 = 0
    rw [← F3, ← F_add, show C.p - 3 + 3 = C.p by omega, F_p]
  have b0 : (ec C).b ≠ 0 := fun h => hx 0 (by rw [h]; grobner)
  have ok : (ec C).Ok := ⟨Fd.of hp (by omega), fun x h => by
    unfold Ec.on at h
    exact absurd (by rw [← h]; grobner) (hx x)⟩
  have onG : (ec C).On (gen C) := by
    show F C.p C.gy * F C.p C.gy = F C.p C.gx * F C.p C.gx * F C.p C.gx + F C.p (C.p - 3) * F C.p C.gx + F C.p C.b
    simp only [← F_mul, ← F_add]
    rw [← F_mod, hon, F_mod]
  refine ⟨ok, a3, b0, h3, hb, np, gl, onG, hp, hn, ?_, hx⟩
  have hr : Rp (C.gx, C.gy, 1) (gen C) := by
    refine ⟨Nat.one_ne_zero, ?_, ?_⟩
    · show F C.p C.gx = F C.p C.gx * (F C.p 1 * F C.p 1)
      rw [F_1]; grobner
    · show F C.p C.gy = F C.p C.gy * (F C.p 1 * F C.p 1 * F C.p 1)
      rw [F_1]; grobner
  have h := nm_rp ok a3 (g := (C.gx, C.gy, 1)) ⟨gl.1, gl.2, by show 1 < C.p; omega⟩ onG hr f C.n hfn
  cases hm : (ec C).mul C.n (gen C) with
  | none => rfl
  | some P => rw [hm] at h; exact absurd hG h.1
theorem cok256 [NeZero c256.p] : Cok c256 := cok_of c256 cr0_951 cr22_369 (by decide) (by decide) (by decide) ⟨by decide, by decide⟩ (f := 256) (by decide +kernel) cub256 inv256 (by decide +kernel) (by decide +kernel) test256
theorem cok384 [NeZero c384.p] : Cok c384 := cok_of c384 cr11_319 cr31_643 (by decide) (by decide) (by decide) ⟨by decide, by decide⟩ (f := 384) (by decide +kernel) cub384 inv384 (by decide +kernel) (by decide +kernel) test384
theorem crv_cok {c : Int} {C : Cv} (h : crv c = some C) : ∃ _ : NeZero C.p, Cok C := by
  unfold crv at h
  split at h
  · cases h
    exact ⟨⟨by decide⟩, @cok256 ⟨by decide⟩⟩
  · split at h
    · cases h
      exact ⟨⟨by decide⟩, @cok384 ⟨by decide⟩⟩
    · cases h
variable {C : Cv} [NeZero C.p]
theorem Cok.ord (g : Cok C) {A : Pt C.p} (hA : (ec C).On A) : (ec C).mul C.n A = none :=
  order_mul g.ok g.hno g.prn.2 g.np g.onG (by unfold gen; simp) g.ordG hA
theorem Cok.modn (g : Cok C) {A : Pt C.p} (hA : (ec C).On A) (k : Nat) : (ec C).mul (k % C.n) A = (ec C).mul k A := by
  conv => rhs; rw [← Nat.div_add_mod k C.n]
  rw [mul_add g.ok hA, Nat.mul_comm, mul_mul g.ok hA, g.ord hA, mul_none]
  rfl
/-- Below the order no multiple of a point is far. -/
theorem Cok.ne (g : Cok C) {A : Pt C.p} (hA : (ec C).On A) (h0 : A ≠ none) {k : Nat} (hk : 0 < k) (hn : k < C.n) : (ec C).mul k A ≠ none := by
  intro h
  have hg := mul_gcd g.ok hA k C.n h (g.ord hA)
  rcases g.prn.2 _ (Nat.gcd_dvd_right k C.n) with e | e
  · rw [e] at hg; exact h0 hg
  · have := Nat.le_of_dvd hk (Nat.gcd_dvd_left k C.n)
    rw [e] at this
    omega
end Go.Proofs.Ytkdclocjijmgpaa.Gl
