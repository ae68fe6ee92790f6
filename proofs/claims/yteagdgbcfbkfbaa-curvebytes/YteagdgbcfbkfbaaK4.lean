/-
  The walks of ExpMod, euclid, Inverse.
-/
import Derived.Deep.LoopGhost
import Derived.RegionTactic
import Derived.BigRegion
import Derived.Test.YteagdgbcfbkfbaaK3
namespace Go.Proofs.Yteagdgbcfbkfbaa.Nt
open Go.RowKit

/-- What stands between two rounds of Euclid's: rests r, x; factors f, g; s: the sign of f. -/
structure Euc (A M r x f g s : Int) : Prop where
  x0 : 0 ≤ x
  xr : x < r
  rM : r ≤ M
  f0 : 0 ≤ f
  fg : f ≤ g
  tot : r * g + x * f = M
  c1 : ∃ k, r = s * f * A + M * k
  c2 : ∃ k, x = -(s * g * A) + M * k
  dv : ∀ d : Int, (d ∣ r ∧ d ∣ x) ↔ (d ∣ A ∧ d ∣ M)
  one : M = 1 → f = 0
theorem Euc.start (A : Int) {M : Int} (hM : 0 < M) : Euc A M M (A % M) 0 1 (-1) where
  x0 := Int.emod_nonneg _ (by omega)
  xr := Int.emod_lt_of_pos _ hM
  rM := Int.le_refl _
  f0 := Int.le_refl _
  fg := by decide
  tot := by simp
  c1 := ⟨1, by simp⟩
  c2 := ⟨-(A / M), by have := Int.mul_ediv_add_emod A M; have e : M * -(A / M) = -(M * (A / M)) := Int.mul_neg _ _; rw [e]; omega⟩
  dv := fun d => by
    have h := Int.mul_ediv_add_emod A M
    constructor
    · rintro ⟨h1, h2⟩
      exact ⟨by rw [← h]; exact Int.dvd_add (Int.dvd_trans h1 (Int.dvd_mul_right _ _)) h2, h1⟩
    · rintro ⟨h1, h2⟩
      refine ⟨h2, ?_⟩
      have e : A % M = A - M * (A / M) := by omega
      rw [e]; exact Int.dvd_sub h1 (Int.dvd_trans h2 (Int.dvd_mul_right _ _))
  one := fun _ => rfl
theorem Euc.step {A M r x f g s : Int} (h : Euc A M r x f g s) (hx : 0 < x) : Euc A M x (r % x) g (f + r / x * g) (-s) := by
  have hq := Int.mul_ediv_add_emod r x
  obtain ⟨q, hqe⟩ : ∃ q, r / x = q := ⟨_, rfl⟩
  obtain ⟨y, hye⟩ : ∃ y, r % x = y := ⟨_, rfl⟩
  have hy0 : 0 ≤ y := by rw [← hye]; exact Int.emod_nonneg _ (by omega)
  have hy1 : y < x := by rw [← hye]; exact Int.emod_lt_of_pos _ hx
  have hq1 : 1 ≤ q := by rw [← hqe]; exact Int.le_ediv_of_mul_le hx (by have := h.xr; omega)
  rw [hqe, hye] at hq
  rw [hqe, hye]
  have g0 : 0 ≤ g := Int.le_trans h.f0 h.fg
  have hfg := h.fg; have hf0 := h.f0
  have hgq : g ≤ q * g := by
    calc g = 1 * g := (Int.one_mul g).symm
      _ ≤ q * g := Int.mul_le_mul_of_nonneg_right hq1 g0
  refine ⟨hy0, hy1, by have := h.xr; have := h.rM; omega, g0, by omega, ?_, ?_, ?_, fun d => ?_, fun h1 => ?_⟩
  · have := h.tot
    grind
  · obtain ⟨k, hk⟩ := h.c2
    exact ⟨k, by rw [hk]; grind⟩
  · obtain ⟨k, hk⟩ := h.c1
    obtain ⟨j, hj⟩ := h.c2
    refine ⟨k - q * j, ?_⟩
    have : y = r - x * q := by omega
    rw [this, hk, hj]; grind
  · rw [← h.dv d]
    constructor
    · rintro ⟨h1, h2⟩
      exact ⟨by rw [← hq]; exact Int.dvd_add (Int.dvd_trans h1 (Int.dvd_mul_right _ _)) h2, h1⟩
    · rintro ⟨h1, h2⟩
      refine ⟨h2, ?_⟩
      have e : y = r - x * q := by omega
      rw [e]; exact Int.dvd_sub h1 (Int.dvd_trans h2 (Int.dvd_mul_right _ _))
  · have := h.xr; have := h.rM; omega
theorem Euc.gM {A M r x f g s : Int} (h : Euc A M r x f g s) : g ≤ M := by
  have h1 := h.tot; have h2 := h.x0; have h3 := h.xr; have h4 := h.f0; have h5 := h.fg
  have h6 : 0 ≤ x * f := Int.mul_nonneg h2 h4
  have h7 : 1 * g ≤ r * g := Int.mul_le_mul_of_nonneg_right (by omega) (by omega)
  omega
/-- What Euclid's rounds end with. -/
def Bez (A M D G : Int) : Prop := 0 < D ∧ 0 ≤ G ∧ G ≤ M ∧ (∀ d : Int, d ∣ D ↔ (d ∣ A ∧ d ∣ M)) ∧ (∃ t, A * G = D + M * t) ∧ (M = 1 → G = 0)
theorem Euc.last {A M r f g s : Int} (h : Euc A M r 0 f g s) (hs : s = 1) : Bez A M r f := by
  subst hs
  have := h.xr; have := h.gM; have h5 := h.fg
  refine ⟨by omega, h.f0, by omega, fun d => ?_, ?_, h.one⟩
  · rw [← h.dv d]; exact ⟨fun h => ⟨h, Int.dvd_zero d⟩, fun h => h.1⟩
  · obtain ⟨k, hk⟩ := h.c1; exact ⟨-k, by rw [hk]; grind⟩
theorem Euc.last0 {A M r g s : Int} (h : Euc A M r 0 0 g s) : Bez A M r 0 := by
  have := h.xr; have := h.gM; have h5 := h.fg; have := h.rM
  refine ⟨by omega, h.f0, by omega, fun d => ?_, ?_, h.one⟩
  · rw [← h.dv d]; exact ⟨fun h => ⟨h, Int.dvd_zero d⟩, fun h => h.1⟩
  · obtain ⟨k, hk⟩ := h.c1; exact ⟨-k, by rw [hk]; grind⟩
theorem Euc.lastN {A M r f g s : Int} (h : Euc A M r 0 f g s) (hs : s = -1) (hf : 0 < f) : Bez A M r (M - f) := by
  subst hs
  have := h.xr; have := h.gM; have h5 := h.fg; have := h.rM
  refine ⟨by omega, by omega, by omega, fun d => ?_, ?_, fun h1 => by have := h.one h1; omega⟩
  · rw [← h.dv d]; exact ⟨fun h => ⟨h, Int.dvd_zero d⟩, fun h => h.1⟩
  · obtain ⟨k, hk⟩ := h.c1; exact ⟨A - k, by rw [hk]; grind⟩

theorem len_pos {n : Int} (h : 0 < n) : 0 < (lim n.toNat).length := by rw [lim_pos (by omega)]; simp
def sgn (b : Bool) : Int := if b then -1 else 1

theorem Trim_num {k : Nat} {w : World} (v : Value) (x : Int) (hx : Num k w v x) (hk : k ≤ 1073741824) :
    Calls Try.prog 44 #[v] w fun e w' => ∃ r, e = .returned r ∧ Own w.heap.size w' r (lim x.toNat) ∧ Num k w' r x ∧ Below w.heap.size w w' := by
  have lx := hx.len
  refine (Trim_any _ v w hx.2.2 (lim_u32 _) (by omega)).mono ?_
  rintro e w' ⟨r, rfl, hr, hB⟩
  rw [hx.val] at hr
  exact ⟨r, rfl, hr, Num.of_own hr hx.1 hx.2.1, hB⟩
theorem Small_num {w : World} (x : Int) (h0 : 0 ≤ x) (h1 : x < 4294967296) :
    Calls Try.prog 70 #[.int .u64 x] w fun e w' => ∃ r, e = .returned r ∧ Own w.heap.size w' r (lim x.toNat) ∧ Num 1 w' r x ∧ Below w.heap.size w w' := by
  refine (Small_any x h0 (by omega) w).mono ?_
  rintro e w' ⟨r, rfl, hr, hB⟩
  exact ⟨r, rfl, hr, Num.of_own hr h0 (by simpa using h1), hB⟩

set_option maxHeartbeats 2000000 in
theorem euclid_any (a m : Value) (A M : Int) (w : World) (ha : Num 1024 w a A) (hm : Num 1024 w m M) (h0 : 0 < M) (H : M < 4294967296 ∨ LongOK) :
    Calls Try.prog 99 #[a, m] w fun e w' => ∃ d g D G, e = .returned (.tuple #[d, g]) ∧ Bez A M D G ∧ Own w.heap.size w' d (lim D.toNat) ∧ Own w.heap.size w' g (lim G.toNat) ∧ Num 1024 w' d D ∧ Below w.heap.size w w' := by
  have HL : Hid (M < 4294967296 ∨ LongOK) := H
  have HA : Hid (0 ≤ A ∧ M < 4294967296 ^ 1024) := ⟨ha.1, hm.2.1⟩
  have hBt : Below w.heap.size w w := Below.refl _ _
  clear H
  go_enter Try.func99, Try.ntmps99
  go_wp2_with (first
    | (go_at_call 44; refine (Trim_num _ _ hm (by omega)).mono ?_; rintro e w' ⟨r1, rfl, hO1, hn1, hB⟩; replace hm := hm.below hB; replace ha := ha.below hB; replace hBt := hBt.trans (hB.mono hBt.size))
    | (go_at_call 115; refine (rest_num _ _ _ _ ha hm (by omega) (by omega) h0 HL.out).mono ?_; rintro e w' ⟨r2, rfl, hO2, hn2, hB⟩; replace hm := hm.below hB; replace hn1 := hn1.below hB; replace hO1 := hO1.below hB; replace hO2 := hO2.mono hBt.size; replace hBt := hBt.trans (hB.mono hBt.size))
    | (go_at_call 70; replace hn3 := hn3; refine (Small_num _ (by decide) (by decide)).mono ?_; rintro e w' ⟨r4, rfl, hO4, hn4, hB⟩; replace hm := hm.below hB; replace hn1 := hn1.below hB; replace hO1 := hO1.below hB; replace hn2 := hn2.below hB; replace hO2 := hO2.below hB; replace hn3 := hn3.below hB; replace hO3 := hO3.below hB; replace hO4 := hO4.mono hBt.size; replace hBt := hBt.trans (hB.mono hBt.size))
    | (go_at_call 70; refine (Small_num _ (by decide) (by decide)).mono ?_; rintro e w' ⟨r3, rfl, hO3, hn3, hB⟩; replace hm := hm.below hB; replace hn1 := hn1.below hB; replace hO1 := hO1.below hB; replace hn2 := hn2.below hB; replace hO2 := hO2.below hB; replace hO3 := hO3.mono hBt.size; replace hBt := hBt.trans (hB.mono hBt.size)))
  go_loopg [6, 7, 8, 9, 10] (A % M).toNat (fun gh rv xv fv gv nv wr => ∃ (r x f g : Int) (b : Bool), nv = .bool b ∧ gh = x.toNat ∧ Hid (Euc A M r x f g (sgn b)) ∧ Own w.heap.size wr rv (lim r.toNat) ∧ Num 1024 wr rv r ∧ Own w.heap.size wr xv (lim x.toNat) ∧ Num 1024 wr xv x ∧ Own w.heap.size wr fv (lim f.toNat) ∧ Num 1024 wr fv f ∧ Own w.heap.size wr gv (lim g.toNat) ∧ Num 1024 wr gv g ∧ Num 1024 wr m M ∧ Below w.heap.size w wr)
  case atStart => exact ⟨M, A % M, 0, 1, true, rfl, rfl, Euc.start A h0, hO1, hn1, hO2, hn2, hO3, hn3.mono (by decide), hO4, hn4.mono (by decide), hm, hBt⟩
  case round =>
    clear hO1 hn1 hO2 hn2 hO3 hn3 hO4 hn4 hm hBt ha
    obtain ⟨r, x, f, g, b, rfl, hgk, HE, hOr, hr, hOx, hx, hOf, hf, hOg, hg, hm, hBt⟩ := hrel
    obtain ⟨ax, cx, hvx⟩ := hOx.ne
    obtain ⟨af, cf, hvf⟩ := hOf.ne
    by_cases hx0 : x = 0
    · subst hx0
      have hlen : (lim (Int.toNat 0)).length = 0 := by simp [lim_zero]
      rw [hlen] at hvx
      subst hvx
      cases b with
      | false =>
        have HR : Hid (Bez A M r f ∧ Own w.heap.size wr u6 (lim r.toNat) ∧ Own w.heap.size wr u8 (lim f.toNat) ∧ Num 1024 wr u6 r) := ⟨HE.out.last rfl, hOr, hOf, hr⟩
        clear HE hgk hOx hx hOg hg hOr hOf hvf
        go_wp2
        go_ret2
        obtain ⟨h1, h2, h3, h4⟩ := HR.out
        exact ⟨_, _, r, f, rfl, h1, h2, h3, h4, hBt⟩
      | true =>
        by_cases hf0 : f = 0
        · subst hf0
          rw [hlen] at hvf
          have HR : Hid (Bez A M r 0 ∧ Own w.heap.size wr u6 (lim r.toNat) ∧ Own w.heap.size wr u8 (lim (Int.toNat 0)) ∧ Num 1024 wr u6 r) := ⟨HE.out.last0, hOr, hOf, hr⟩
          subst hvf
          clear HE hgk hOx hx hOg hg hOr hOf hlen
          go_wp2
          go_ret2
          obtain ⟨h1, h2, h3, h4⟩ := HR.out
          exact ⟨_, _, r, 0, rfl, h1, h2, h3, h4, hBt⟩
        · have hf1 : 0 < f := by have := hf.1; omega
          have hlf := len_pos hf1
          have hfM : f ≤ M := Int.le_trans HE.out.fg HE.out.gM
          have HR : Hid (Bez A M r (M - f) ∧ Own w.heap.size wr u6 (lim r.toNat) ∧ Num 1024 wr u6 r) := ⟨HE.out.lastN rfl hf1, hOr, hr⟩
          subst hvf
          clear HE hgk hOx hx hOg hg hOr hOf hlen hr
          go_wp2_with (go_at_call 111; refine (difference_num _ _ _ _ hm hf (by omega) hfM).mono ?_; rintro e w' ⟨rd, rfl, hOd, hnd, hB⟩)
          go_ret2
          obtain ⟨h1, h2, h4⟩ := HR.out
          exact ⟨_, _, r, M - f, rfl, h1, h2.below hB, hOd.mono hBt.size, h4.below hB, hBt.trans (hB.mono hBt.size)⟩
    · have hx1 : 0 < x := by have := hx.1; omega
      have hstep := HE.out.step hx1
      have hlen := len_pos hx1
      have HX : Hid (x < 4294967296 ∨ LongOK) := by
        have h1 := HE.out.xr; have h2 := HE.out.rM
        rcases HL.out with h | h
        · exact .inl (by omega)
        · exact .inr h
      have hf0 := hf.1; have hg0 := hg.1
      have HS : Hid (Euc A M x (r % x) g (f + r / x * g) (-sgn b) ∧ gk = x.toNat ∧ r % x < x ∧ 0 ≤ r % x ∧ 0 ≤ f + r / x * g ∧ f + r / x * g < 4294967296 ^ 1024) :=
        ⟨hstep, hgk, Int.emod_lt_of_pos _ hx1, Int.emod_nonneg _ (by omega), by have := hstep.fg; have := hstep.f0; omega, Int.lt_of_le_of_lt hstep.gM HA.out.2⟩
      have HOx : Hid (Own w.heap.size wr u7 (lim x.toNat)) := hOx
      have hf2 := hf.mono (k' := 1024 + 1024) (by decide)
      subst hvx
      clear HE hgk hstep hvf hOr hOf hf hx0 hOx
      go_wp2_with (first
        | (go_at_call 113; refine (divide_num _ _ _ _ hr hx (by omega) (by omega) hx1 HX.out).mono ?_; rintro e w' ⟨q, l, rfl, hOq, hOl, hq, hl, hB⟩; replace hm := hm.below hB; replace hx := hx.below hB; replace hf2 := hf2.below hB; replace hg := hg.below hB; replace hOg := hOg.below hB; replace hOl := hOl.mono hBt.size; replace HOx : Hid (Own w.heap.size w' (.slice ax (lim x.toNat).length cx) (lim x.toNat)) := HOx.out.below hB; replace hBt := hBt.trans (hB.mono hBt.size))
        | (go_at_call 116; refine (product_num _ _ _ _ hq hg (by omega) (by omega)).mono ?_; rintro e w' ⟨p, rfl, hOp, hp, hB⟩; replace hm := hm.below hB; replace hx := hx.below hB; replace hf2 := hf2.below hB; replace hg := hg.below hB; replace hOg := hOg.below hB; replace hOl := hOl.below hB; replace hl := hl.below hB; replace HOx : Hid (Own w.heap.size w' (.slice ax (lim x.toNat).length cx) (lim x.toNat)) := HOx.out.below hB; replace hBt := hBt.trans (hB.mono hBt.size))
        | (go_at_call 110; refine (sum_num _ _ _ _ hf2 hp (by omega)).mono ?_; rintro e w' ⟨s, rfl, hOs, hs, hB⟩; replace hm := hm.below hB; replace hx := hx.below hB; replace hg := hg.below hB; replace hOg := hOg.below hB; replace hOl := hOl.below hB; replace hl := hl.below hB; replace hOs := hOs.mono hBt.size; replace HOx : Hid (Own w.heap.size w' (.slice ax (lim x.toNat).length cx) (lim x.toNat)) := HOx.out.below hB; replace hBt := hBt.trans (hB.mono hBt.size)))
      go_roundg (r % x).toNat
      case measure => have h := HS.out; omega
      case rel =>
        obtain ⟨h1, h2, h3, h4, h5, h6⟩ := HS.out
        have hsg : -sgn b = sgn (!b) := by cases b <;> rfl
        rw [hsg] at h1
        exact ⟨x, r % x, g, _, !b, rfl, rfl, h1, HOx.out, hx, hOl, hl, hOg, hg, hOs, Num.of_own hOs h5 h6, hm, hBt⟩
end Go.Proofs.Yteagdgbcfbkfbaa.Nt
/-
  The walks of ExpMod and Inverse.
-/
namespace Go.Proofs.Yteagdgbcfbkfbaa.Nt
open Go.RowKit

abbrev expLong (X E M : List Int) : Prop := 512 < X.length ∨ 256 < E.length ∨ 256 < M.length
def expS (X E M : List Int) : List Int × Int := if expLong X E M then ([], 3) else if val M = 0 then ([], 11) else (lim (val X ^ (val E).toNat % val M).toNat, 0)

/-- What Inverse answers: the inverse, or that there is a common divisor. -/
def InvS (X M : List Int) (s : List Int × Int) : Prop :=
  if 512 < X.length ∨ 512 < M.length then s = ([], 3) else if val M = 0 then s = ([], 11) else
    (∃ G, 0 ≤ G ∧ G < val M ∧ (∃ t, val X * G = 1 + val M * t) ∧ s = (lim G.toNat, 0)) ∨ (∃ D, 1 < D ∧ D ∣ val X ∧ D ∣ val M ∧ s = ([], 5))

theorem Bez.one {A M G : Int} (h : Bez A M 1 G) (_hM : 0 < M) : 0 ≤ G ∧ G < M ∧ ∃ t, A * G = 1 + M * t := by
  obtain ⟨_, h1, h2, _, ⟨t, ht⟩, h3⟩ := h
  by_cases hG : G = M
  · subst hG
    have hd : G ∣ 1 := by
      have e : (1 : Int) = G * (A - t) := by rw [Int.mul_sub]; have := Int.mul_comm A G; omega
      rw [e]; exact Int.dvd_mul_right _ _
    have := Int.le_of_dvd (by decide) hd
    have h1 : G = 1 := by omega
    have h4 := h3 h1
    omega
  · exact ⟨h1, by omega, t, ht⟩

set_option maxHeartbeats 1000000 in
theorem Inverse_any (X M : List Int) (v u : Value) (w : World) (hX : Sl .u32 w v X) (hM : Sl .u32 w u M) (uX : U32s X) (uM : U32s M) (H : val M < 4294967296 ∨ LongOK) :
    Calls Try.prog 65 #[v, u] w fun e w' => ∃ s, InvS X M s ∧ Two w.heap.size w' e s ∧ Below w.heap.size w w' := by
  by_cases hlong : 512 < X.length ∨ 512 < M.length
  · have hb : (decide (512 < X.length) || decide (512 < M.length)) = true := by simpa using hlong
    have HL : Hid (InvS X M ([], 3)) := by unfold InvS; rw [if_pos hlong]; rfl
    clear hlong
    go_enter Try.func65, Try.ntmps65
    go_wp2_with (go_at_call 98; refine (tooLong_sl v u X M hX hM true hb).mono ?_; rintro e w' ⟨rfl, rfl⟩)
    go_ret2
    exact ⟨_, HL.out, Two.nil' rfl, Below.refl _ _⟩
  have hb : (decide (512 < X.length) || decide (512 < M.length)) = false := by simpa using hlong
  have lX : X.length ≤ 1152921504606846976 := by omega
  have lM : M.length ≤ 1152921504606846976 := by omega
  have lX2 : X.length ≤ 1024 := by omega
  have lM2 : M.length ≤ 1024 := by omega
  by_cases hz : sig M = 0
  · have hlen : Len w u 0 := ⟨M, hM, lM, hz⟩
    have HL : Hid (InvS X M ([], 11)) := by unfold InvS; rw [if_neg hlong, if_pos (val_of_sig0 hz)]; rfl
    clear hlong hz
    go_enter Try.func65, Try.ntmps65
    go_wp2_with (first
      | (go_at_call 98; refine (tooLong_sl v u X M hX hM false hb).mono ?_; rintro e w' ⟨rfl, rfl⟩)
      | (go_at_call 78; refine (length_len _ _ hlen).mono ?_; rintro e w' ⟨rfl, rfl⟩))
    go_ret2
    exact ⟨_, HL.out, Two.nil' rfl, Below.refl _ _⟩
  obtain ⟨m, hm⟩ : ∃ m, sig M = m + 1 := ⟨sig M - 1, by omega⟩
  have hlen : Len w u (m + 1) := ⟨M, hM, lM, hm⟩
  have hv0 : ¬ val M = 0 := fun h => hz (sig0_of_val uM h)
  have h0 : 0 < val M := by have := val_nonneg uM; omega
  have HI : Hid (∀ s, InvS X M s ↔ ((∃ G, 0 ≤ G ∧ G < val M ∧ (∃ t, val X * G = 1 + val M * t) ∧ s = (lim G.toNat, 0)) ∨ (∃ D, 1 < D ∧ D ∣ val X ∧ D ∣ val M ∧ s = ([], 5)))) := by
    intro s; unfold InvS; rw [if_neg hlong, if_neg hv0]
  have HL : Hid (val M < 4294967296 ∨ LongOK) := H
  clear hlong hz hm hv0 H
  go_enter Try.func65, Try.ntmps65
  go_wp2_with (first
    | (go_at_call 98; refine (tooLong_sl v u X M hX hM false hb).mono ?_; rintro e w' ⟨rfl, rfl⟩)
    | (go_at_call 78; refine (length_len _ _ hlen).mono ?_; rintro e w' ⟨rfl, rfl⟩)
    | (go_at_call 93; replace hrX := hrX; refine (cut_sl _ _ hM lM).mono ?_; rintro e w' ⟨r, rfl, hrM, rfl⟩)
    | (go_at_call 93; refine (cut_sl _ _ hX lX).mono ?_; rintro e w' ⟨r, rfl, hrX, rfl⟩)
    | (go_at_call 99; refine (euclid_any _ _ _ _ _ ((Num.of_trim hrX uX).mono lX2) ((Num.of_trim hrM uM).mono lM2) h0 HL.out).mono ?_; rintro e w1 ⟨d, g, D, G, rfl, hbez, hOd, hOg, hnd, hB⟩; have HBz : Hid (Bez (val X) (val M) D G) := hbez; clear hbez; obtain ⟨c, hc⟩ : ∃ c, cmpI D 1 = c := ⟨_, rfl⟩)
    | (go_at_call 70; refine (Small_num _ (by decide) (by decide)).mono ?_; rintro e w2 ⟨r1, rfl, hO1, hn1, hB2⟩; replace hnd := hnd.below hB2; replace hOg := hOg.below hB2; replace hB := hB.trans (hB2.mono hB.size))
    | (go_at_call 79; refine (Cmp_sl _ _ _ _ hnd.2.2 hn1.2.2 (lim_u32 _) (lim_u32 _) (by have := hnd.len; omega) (by have := hn1.len; omega) c (by rw [hnd.val, hn1.val]; exact hc)).mono ?_; rintro e w3 ⟨rfl, hB3⟩; replace hOg := hOg.below hB3; replace hB := hB.trans (hB3.mono hB.size)))
  · go_ret2
    refine ⟨([], 5), (HI.out _).2 (.inr ⟨D, ?_, ?_, ?_, rfl⟩), Two.nil' rfl, hB⟩
    · have h1 := HBz.out.1
      have h2 : D ≠ 1 := by
        intro h; subst h
        have h3 : (c != 0) = true := by assumption
        rw [← hc] at h3; simp [cmpI] at h3
      omega
    · exact ((HBz.out.2.2.2.1 D).1 (Int.dvd_refl D)).1
    · exact ((HBz.out.2.2.2.1 D).1 (Int.dvd_refl D)).2
  · go_ret2
    have h3 : (c != 0) = false := by assumption
    have hD : D = 1 := by
      simp at h3
      rw [h3] at hc
      unfold cmpI at hc
      split at hc
      · simp at hc
      · split at hc
        · simp at hc
        · omega
    have hbz := HBz.out
    rw [hD] at hbz
    obtain ⟨g1, g2, g3⟩ := hbz.one h0
    exact ⟨_, (HI.out _).2 (.inl ⟨G, g1, g2, g3, rfl⟩), Two.mk' hOg rfl, hB⟩
end Go.Proofs.Yteagdgbcfbkfbaa.Nt
/-
  The walks of FromBytes and Bytes.
-/
namespace Go.Proofs.Yteagdgbcfbkfbaa.Nt
open Go.RowKit

def U8 (x : Int) : Prop := 0 ≤ x ∧ x < 256
def U8s (xs : List Int) : Prop := ∀ x ∈ xs, U8 x
/-- The number of bytes, the lowest first. -/
def bv : List Int → Int
  | [] => 0
  | x :: xs => x + 256 * bv xs
theorem U8s.at {xs : List Int} (h : U8s xs) (i : Nat) : U8 (xs.getD i 0) := by
  by_cases hi : i < xs.length
  · simp [hi]; exact h _ (List.getElem_mem hi)
  · simp [List.getD, List.getElem?_eq_none (Nat.le_of_not_lt hi), U8]
theorem U8s.tail {x : Int} {xs : List Int} (h : U8s (x :: xs)) : U8s xs := fun y hy => h y (by simp [hy])
theorem U8s.rev {xs : List Int} (h : U8s xs) : U8s xs.reverse := fun y hy => h y (by simpa using hy)
theorem U8s.take {xs : List Int} (h : U8s xs) (n : Nat) : U8s (xs.take n) := fun y hy => h y (List.mem_of_mem_take hy)
theorem bv_bound {xs : List Int} (h : U8s xs) : 0 ≤ bv xs ∧ bv xs < 256 ^ xs.length := by
  induction xs with
  | nil => simp [bv]
  | cons x xs ih =>
    have h1 := ih h.tail; have h2 := h x (by simp)
    unfold U8 at h2
    simp only [bv, List.length_cons, Int.pow_succ, Int.mul_comm _ (256 : Int)]; omega
theorem bv_append (xs ys : List Int) : bv (xs ++ ys) = bv xs + 256 ^ xs.length * bv ys := by
  induction xs with
  | nil => simp [bv]
  | cons x xs ih =>
    simp only [List.cons_append, bv, ih, List.length_cons, Int.pow_succ, Int.mul_comm _ (256 : Int), Int.mul_add, Int.mul_assoc]; omega
theorem bv_take_succ (xs : List Int) (k : Nat) (h : k < xs.length) : bv (xs.take (k + 1)) = bv (xs.take k) + 256 ^ k * xs.getD k 0 := by
  rw [take_snoc xs k h, bv_append, List.length_take, Nat.min_eq_left (by omega)]; simp [bv]
theorem pow256 (i : Nat) : (256 : Int) ^ i = 4294967296 ^ (i / 4) * 2 ^ (i % 4 * 8) := by
  have e1 : (256 : Int) = 2 ^ 8 := by decide
  have e2 : (4294967296 : Int) = 2 ^ 32 := by decide
  rw [e1, e2, ← Int.pow_mul, ← Int.pow_mul, ← Int.pow_add]
  congr 1; omega

theorem wraps_u32 (n : Int) (h₀ : 0 ≤ n) (h₁ : n < 2 ^ 32) : IntKind.u32.wrap n = n := by rw [IntKind.wrap_u32]; omega
theorem or_low (s : Nat) (x y : Int) (hs : s ≤ 24) (hx0 : 0 ≤ x) (hx : x < 2 ^ s) (hy0 : 0 ≤ y) (hy : y < 256) : bits .or .u32 x (y * 2 ^ s) = x + y * 2 ^ s := by
  obtain ⟨a, rfl⟩ := Int.eq_ofNat_of_zero_le hx0
  obtain ⟨b, rfl⟩ := Int.eq_ofNat_of_zero_le hy0
  have ha : a < 2 ^ s := by exact_mod_cast hx
  have hb : b < 256 := by omega
  have hp : 2 ^ s ≤ 2 ^ 24 := Nat.pow_le_pow_right (by decide) hs
  have hm : b * 2 ^ s < 2 ^ 32 := by
    calc b * 2 ^ s ≤ 255 * 2 ^ s := Nat.mul_le_mul_right _ (by omega)
      _ ≤ 255 * 2 ^ 24 := Nat.mul_le_mul_left _ hp
      _ < 2 ^ 32 := by decide
  have h := (bits_nat .u32 32 (by decide) wraps_u32 a (b * 2 ^ s) (by omega) hm).2
  have e : ((b * 2 ^ s : Nat) : Int) = (b : Int) * 2 ^ s := by simp
  rw [e] at h
  rw [h, Nat.or_comm, Nat.mul_comm b, ← Nat.two_pow_add_eq_or_of_lt ha b]
  simp only [Int.natCast_add, Int.natCast_mul, Int.natCast_pow]
  rw [Int.mul_comm (b : Int)]; simp [Int.add_comm]
theorem shl_fits (s : Nat) (y : Int) (hs : s ≤ 24) (hy0 : 0 ≤ y) (hy : y < 256) : 0 ≤ y * 2 ^ s ∧ y * 2 ^ s < 4294967296 := by
  have hp0 : (0 : Int) < 2 ^ s := Int.pow_pos (by decide)
  have hp : (2 : Int) ^ s ≤ 2 ^ 24 := by exact_mod_cast Nat.pow_le_pow_right (n := 2) (by decide) hs
  refine ⟨Int.mul_nonneg hy0 (Int.le_of_lt hp0), ?_⟩
  calc y * 2 ^ s ≤ 255 * 2 ^ s := Int.mul_le_mul_of_nonneg_right (by omega) (Int.le_of_lt hp0)
    _ ≤ 255 * 2 ^ 24 := Int.mul_le_mul_of_nonneg_left hp (by decide)
    _ < 4294967296 := by decide
theorem or_fits (s : Nat) (z y : Int) (hs : s ≤ 24) (hz : z < 2 ^ s) (hy : y < 256) : z + y * 2 ^ s < 4294967296 := by
  have hp0 : (0 : Int) < 2 ^ s := Int.pow_pos (by decide)
  have hp : (2 : Int) ^ s ≤ 2 ^ 24 := by exact_mod_cast Nat.pow_le_pow_right (n := 2) (by decide) hs
  have h1 : y * 2 ^ s ≤ 255 * 2 ^ s := Int.mul_le_mul_of_nonneg_right (by omega) (Int.le_of_lt hp0)
  omega
/-- The limb under way has no bit above those read. -/
theorem limb_low {S : List Int} {i : Nat} (hu : U32s S) (hv : val S < 256 ^ i) : S.getD (i / 4) 0 < 2 ^ (i % 4 * 8) := by
  have h := getD_div S (i / 4) hu
  have h0 := val_nonneg hu
  have h1 := hu.at (i / 4)
  rw [pow256, pow32] at hv
  obtain ⟨n, hn⟩ := Int.eq_ofNat_of_zero_le h0
  obtain ⟨z, hz⟩ := Int.eq_ofNat_of_zero_le h1.1
  rw [hn, hz] at h
  rw [hz]
  rw [hn] at hv
  have hv2 : n < 2 ^ (32 * (i / 4)) * 2 ^ (i % 4 * 8) := by exact_mod_cast hv
  simp only [Int.toNat_natCast] at h
  have h2 : n / 2 ^ (32 * (i / 4)) < 2 ^ (i % 4 * 8) := by
    rw [Nat.div_lt_iff_lt_mul (Nat.two_pow_pos _), Nat.mul_comm]; exact hv2
  have h3 : z ≤ n / 2 ^ (32 * (i / 4)) := by rw [← h]; exact Nat.mod_le _ _
  exact_mod_cast Nat.lt_of_le_of_lt h3 h2

def fromS (bs : List Int) : List Int × Int := if 2048 < bs.length then ([], 3) else (lim (bv bs.reverse).toNat, 0)

set_option maxHeartbeats 2000000 in
theorem FromBytes_any (bs : List Int) (v : Value) (w : World) (hb : Sl .u8 w v bs) (ub : U8s bs) :
    Calls Try.prog 55 #[v] w fun e w' => Two w.heap.size w' e (fromS bs) ∧ Below w.heap.size w w' := by
  obtain ⟨a, c, rfl, hc, hbr⟩ := hb
  by_cases hlong : 2048 < bs.length
  · have HL : Hid (fromS bs = ([], 3)) := by unfold fromS; rw [if_pos hlong]; rfl
    go_enter Try.func55, Try.ntmps55
    go_wp2
    go_ret2
    exact ⟨Two.nil' HL.out, Below.refl _ _⟩
  have HL : Hid (fromS bs = (lim (bv bs.reverse).toNat, 0)) := by unfold fromS; rw [if_neg hlong]; rfl
  obtain ⟨n, hn⟩ : ∃ n, bs.length = n := ⟨_, rfl⟩
  have HN : Hid (bs.length = n) := hn
  rw [hn] at hlong hc ⊢
  go_enter Try.func55, Try.ntmps55
  go_wp2_with (at_make; refine wpList_mk _ rfl _ _ 22 rfl .u32 55 4 Try.und32 Try.info32 _ ((n + 3) / 4) rfl rfl (by omega) (by omega) (by omega) ?_; intro w1 hA1 hB1)
  go_loopw [16] (fun iv wr => ∃ (i : Nat) (S : List Int), iv = .int .i64 i ∧ i ≤ n ∧ Arr .u32 55 wr w.heap.size S ∧ U32s S ∧ S.length = (n + 3) / 4 ∧ Below w.heap.size w wr ∧ val S = bv (bs.reverse.take i))
      (fun iv _ => n - (intOf iv).toNat)
  case atStart => exact ⟨0, _, rfl, Nat.zero_le _, hA1, U32s.zeros _, by simp, hB1, by simp [val_zeros, bv]⟩
  case round =>
    clear hA1 hB1
    obtain ⟨i, S, rfl, hi, hA, huS, hlS, hB, hv⟩ := hrel
    by_cases hlt : i < n
    · rcases hbr with rfl | ⟨b, o, rfl, hb, hr⟩
      · simp at hn; omega
      obtain ⟨m, hm⟩ : ∃ m, n - 1 - i = m := ⟨_, rfl⟩
      obtain ⟨q, hq⟩ : ∃ q, i / 4 = q := ⟨_, rfl⟩
      obtain ⟨s, hs⟩ : ∃ s, i % 4 * 8 = s := ⟨_, rfl⟩
      obtain ⟨y, hy⟩ : ∃ y, bs.getD m 0 = y := ⟨_, rfl⟩
      obtain ⟨z, hz⟩ : ∃ z, S.getD q 0 = z := ⟨_, rfl⟩
      have uy : U8 y := hy ▸ ub.at m
      have uz : U32 z := hz ▸ huS.at q
      have hcy : wr.cell? ⟨b, o + m, none⟩ = some (.int .u8 y) := by rw [← hy]; exact (below_rd hB hb hr) m (by omega)
      have hcz : wr.cell? ⟨w.heap.size, q, none⟩ = some (.int .u32 z) := by rw [← hz]; exact hA.cell q (by omega)
      have hfz : wr.frozen? ⟨w.heap.size, q, none⟩ = false := hA.frozen q
      have hlow : z < 2 ^ s := by
        rw [← hz, ← hq, ← hs]
        refine limb_low huS ?_
        rw [hv]; have := (bv_bound (ub.rev.take i)).2
        rw [List.length_take, Nat.min_eq_left (by simp; omega)] at this; exact this
      have hs24 : s ≤ 24 := by omega
      obtain ⟨y0, y1⟩ := uy
      obtain ⟨z0, z1⟩ := uz
      have hor := or_low s z y hs24 z0 hlow y0 y1
      obtain ⟨f0, f1⟩ := shl_fits s y hs24 y0 y1
      have hqi : (i : Int) / 4 = q := by omega
      have hsi : (i : Int) % 4 * 8 = s := by omega
      have hmi : (n : Int) - 1 - i = m := by omega
      have hqs : q < (n + 3) / 4 := by omega
      have hmn : m < n := by omega
      have HH : Hid (bs.getD m 0 = y ∧ S.getD q 0 = z ∧ Arr .u32 55 wr w.heap.size S ∧ U32s S ∧ S.length = (n + 3) / 4 ∧ Below w.heap.size w wr ∧ val S = bv (bs.reverse.take i) ∧ n - 1 - i = m ∧ i / 4 = q ∧ i % 4 * 8 = s) := ⟨hy, hz, hA, huS, hlS, hB, hv, hm, hq, hs⟩
      clear hy hz hA huS hlS hB hv hm hq hs hr hn hlow
      go_wp2
      go_region
      go_wp2
      go_roundw
      case rel =>
        obtain ⟨hy, hz, hA, huS, hlS, hB, hv, hm, hq, hs⟩ := HH.out
        refine ⟨i + 1, S.set q (z + y * 2 ^ s), by go_num, by omega, ?_, huS.set _ ⟨by omega, ?_⟩, by simpa using hlS, ?_, ?_⟩
        · exact hA.set _ _
        · have h1 := limb_low (i := i) huS (by
            rw [hv]; have := (bv_bound (ub.rev.take i)).2
            rw [List.length_take, Nat.min_eq_left (by simp; have := HN.out; omega)] at this; exact this)
          rw [hq, hs, hz] at h1
          exact or_fits s z y hs24 h1 y1
        · exact (hB.trans ⟨rfl, rfl, rfl, Nat.le_refl _, fun _ _ => rfl⟩ : Below w.heap.size w wr.drew).setCell (Nat.le_refl _) _
        · have hrl : i < bs.reverse.length := by simp; have := HN.out; omega
          rw [val_set (by omega), hz, bv_take_succ _ _ hrl, hv, pow256, hq, hs]
          have e : bs.reverse.getD i 0 = y := by
            have hnn := HN.out
            rw [← hy, ← hm, List.getD_eq_getElem?_getD, List.getElem?_reverse (by omega), hnn, ← List.getD_eq_getElem?_getD]
          rw [e, show z + y * 2 ^ s - z = y * 2 ^ s by omega, Int.mul_assoc, Int.mul_comm (2 ^ s) y]
      case measure => simp [intOf]; omega
    · have hin : i = n := by omega
      have hsl := hA.sl
      rw [hlS] at hsl
      have hcut := cut_any S (some ⟨w.heap.size, 0, none⟩) ((n + 3) / 4) wr (by rw [hlS]; exact hsl) (by omega)
      rw [hlS] at hcut
      have HS : Hid (Arr .u32 55 wr w.heap.size S ∧ U32s S ∧ S.length = (n + 3) / 4 ∧ Below w.heap.size w wr ∧ val S = bv (bs.reverse.take i) ∧ i = n) := ⟨hA, huS, hlS, hB, hv, hin⟩
      clear hA huS hB hv hsl hlS hin
      go_wp2_with (go_at_call 93; refine hcut.mono ?_; rintro e w4 ⟨rfl, rfl⟩)
      go_ret2
      obtain ⟨hA, huS, hlS, hB, hv, rfl⟩ := HS.out
      have hO := Own.cut (B := w.heap.size) hA huS (Nat.le_refl _) (by omega)
      rw [hlS, hv, List.take_of_length_le (by simp; have := HN.out; omega)] at hO
      exact ⟨Two.mk' hO HL.out, hB⟩
end Go.Proofs.Yteagdgbcfbkfbaa.Nt
