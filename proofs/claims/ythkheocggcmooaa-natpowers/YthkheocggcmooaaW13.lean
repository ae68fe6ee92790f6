/-
  The walks of ExpMod, euclid, Inverse.
-/
import Derived.Test.YthkheocggcmooaaW12
import Derived.Deep.LoopGhost
namespace Go.Proofs.Ythkheocggcmooaa
open Go.RowKit

/-- What stands between two rounds of Euclid's: rests r, x; factors f, g; s: the sign of f. -/
structure Euc (A M r x f g s : Int) : Prop where
  x0 : 0 ≤ x
  xr : x < r
  rM : r ≤ M
  f0 : 0 ≤ f
  fg : f ≤ g
  tot : r * g + x * f = M
  c1 : ∃ k, r = s * f * A + M * k
  c2 : ∃ k, x = -(s * g * A) + M * k
  dv : ∀ d : Int, (d ∣ r ∧ d ∣ x) ↔ (d ∣ A ∧ d ∣ M)
  one : M = 1 → f = 0
theorem Euc.start (A : Int) {M : Int} (hM : 0 < M) : Euc A M M (A % M) 0 1 (-1) where
  x0 := Int.emod_nonneg _ (by omega)
  xr := Int.emod_lt_of_pos _ hM
  rM := Int.le_refl _
  f0 := Int.le_refl _
  fg := by decide
  tot := by simp
  c1 := ⟨1, by simp⟩
  c2 := ⟨-(A / M), by have := Int.mul_ediv_add_emod A M; have e : M * -(A / M) = -(M * (A / M)) := Int.mul_neg _ _; rw [e]; omega⟩
  dv := fun d => by
    have h := Int.mul_ediv_add_emod A M
    constructor
    · rintro ⟨h1, h2⟩
      exact ⟨by rw [← h]; exact Int.dvd_add (Int.dvd_trans h1 (Int.dvd_mul_right _ _)) h2, h1⟩
    · rintro ⟨h1, h2⟩
      refine ⟨h2, ?_⟩
      have e : A % M = A - M * (A / M) := by omega
      rw [e]; exact Int.dvd_sub h1 (Int.dvd_trans h2 (Int.dvd_mul_right _ _))
  one := fun _ => rfl
theorem Euc.step {A M r x f g s : Int} (h : Euc A M r x f g s) (hx : 0 < x) : Euc A M x (r % x) g (f + r / x * g) (-s) := by
  have hq := Int.mul_ediv_add_emod r x
  obtain ⟨q, hqe⟩ : ∃ q, r / x = q := ⟨_, rfl⟩
  obtain ⟨y, hye⟩ : ∃ y, r % x = y := ⟨_, rfl⟩
  have hy0 : 0 ≤ y := by rw [← hye]; exact Int.emod_nonneg _ (by omega)
  have hy1 : y < x := by rw [← hye]; exact Int.emod_lt_of_pos _ hx
  have hq1 : 1 ≤ q := by rw [← hqe]; exact Int.le_ediv_of_mul_le hx (by have := h.xr; omega)
  rw [hqe, hye] at hq
  rw [hqe, hye]
  have g0 : 0 ≤ g := Int.le_trans h.f0 h.fg
  have hfg := h.fg; have hf0 := h.f0
  have hgq : g ≤ q * g := by
    calc g = 1 * g := (Int.one_mul g).symm
      _ ≤ q * g := Int.mul_le_mul_of_nonneg_right hq1 g0
  refine ⟨hy0, hy1, by have := h.xr; have := h.rM; omega, g0, by omega, ?_, ?_, ?_, fun d => ?_, fun h1 => ?_⟩
  · have := h.tot
    grind
  · obtain ⟨k, hk⟩ := h.c2
    exact ⟨k, by rw [hk]; grind⟩
  · obtain ⟨k, hk⟩ := h.c1
    obtain ⟨j, hj⟩ := h.c2
    refine ⟨k - q * j, ?_⟩
    have : y = r - x * q := by omega
    rw [this, hk, hj]; grind
  · rw [← h.dv d]
    constructor
    · rintro ⟨h1, h2⟩
      exact ⟨by rw [← hq]; exact Int.dvd_add (Int.dvd_trans h1 (Int.dvd_mul_right _ _)) h2, h1⟩
    · rintro ⟨h1, h2⟩
      refine ⟨h2, ?_⟩
      have e : y = r - x * q := by omega
      rw [e]; exact Int.dvd_sub h1 (Int.dvd_trans h2 (Int.dvd_mul_right _ _))
  · have := h.xr; have := h.rM; omega
theorem Euc.gM {A M r x f g s : Int} (h : Euc A M r x f g s) : g ≤ M := by
  have h1 := h.tot; have h2 := h.x0; have h3 := h.xr; have h4 := h.f0; have h5 := h.fg
  have h6 : 0 ≤ x * f := Int.mul_nonneg h2 h4
  have h7 : 1 * g ≤ r * g := Int.mul_le_mul_of_nonneg_right (by omega) (by omega)
  omega
/-- What Euclid's rounds end with. -/
def Bez (A M D G : Int) : Prop := 0 < D ∧ 0 ≤ G ∧ G ≤ M ∧ (∀ d : Int, d ∣ D ↔ (d ∣ A ∧ d ∣ M)) ∧ (∃ t, A * G = D + M * t) ∧ (M = 1 → G = 0)
theorem Euc.last {A M r f g s : Int} (h : Euc A M r 0 f g s) (hs : s = 1) : Bez A M r f := by
  subst hs
  have := h.xr; have := h.gM; have h5 := h.fg
  refine ⟨by omega, h.f0, by omega, fun d => ?_, ?_, h.one⟩
  · rw [← h.dv d]; exact ⟨fun h => ⟨h, Int.dvd_zero d⟩, fun h => h.1⟩
  · obtain ⟨k, hk⟩ := h.c1; exact ⟨-k, by rw [hk]; grind⟩
theorem Euc.last0 {A M r g s : Int} (h : Euc A M r 0 0 g s) : Bez A M r 0 := by
  have := h.xr; have := h.gM; have h5 := h.fg; have := h.rM
  refine ⟨by omega, h.f0, by omega, fun d => ?_, ?_, h.one⟩
  · rw [← h.dv d]; exact ⟨fun h => ⟨h, Int.dvd_zero d⟩, fun h => h.1⟩
  · obtain ⟨k, hk⟩ := h.c1; exact ⟨-k, by rw [hk]; grind⟩
theorem Euc.lastN {A M r f g s : Int} (h : Euc A M r 0 f g s) (hs : s = -1) (hf : 0 < f) : Bez A M r (M - f) := by
  subst hs
  have := h.xr; have := h.gM; have h5 := h.fg; have := h.rM
  refine ⟨by omega, by omega, by omega, fun d => ?_, ?_, fun h1 => by have := h.one h1; omega⟩
  · rw [← h.dv d]; exact ⟨fun h => ⟨h, Int.dvd_zero d⟩, fun h => h.1⟩
  · obtain ⟨k, hk⟩ := h.c1; exact ⟨A - k, by rw [hk]; grind⟩

theorem len_pos {n : Int} (h : 0 < n) : 0 < (lim n.toNat).length := by rw [lim_pos (by omega)]; simp
def sgn (b : Bool) : Int := if b then -1 else 1

theorem Trim_num {k : Nat} {w : World} (v : Value) (x : Int) (hx : Num k w v x) (hk : k ≤ 1073741824) :
    Calls Try.prog 16 #[v] w fun e w' => ∃ r, e = .returned r ∧ Own w.heap.size w' r (lim x.toNat) ∧ Num k w' r x ∧ Below w.heap.size w w' := by
  have lx := hx.len
  refine (Trim_any _ v w hx.2.2 (lim_u32 _) (by omega)).mono ?_
  rintro e w' ⟨r, rfl, hr, hB⟩
  rw [hx.val] at hr
  exact ⟨r, rfl, hr, Num.of_own hr hx.1 hx.2.1, hB⟩
theorem Small_num {w : World} (x : Int) (h0 : 0 ≤ x) (h1 : x < 4294967296) :
    Calls Try.prog 39 #[.int .u64 x] w fun e w' => ∃ r, e = .returned r ∧ Own w.heap.size w' r (lim x.toNat) ∧ Num 1 w' r x ∧ Below w.heap.size w w' := by
  refine (Small_any x h0 (by omega) w).mono ?_
  rintro e w' ⟨r, rfl, hr, hB⟩
  exact ⟨r, rfl, hr, Num.of_own hr h0 (by simpa using h1), hB⟩

set_option maxHeartbeats 2000000 in
theorem euclid_any (a m : Value) (A M : Int) (w : World) (ha : Num 1024 w a A) (hm : Num 1024 w m M) (h0 : 0 < M) (H : M < 4294967296 ∨ LongOK) :
    Calls Try.prog 63 #[a, m] w fun e w' => ∃ d g D G, e = .returned (.tuple #[d, g]) ∧ Bez A M D G ∧ Own w.heap.size w' d (lim D.toNat) ∧ Own w.heap.size w' g (lim G.toNat) ∧ Num 1024 w' d D ∧ Below w.heap.size w w' := by
  have HL : Hid (M < 4294967296 ∨ LongOK) := H
  have HA : Hid (0 ≤ A ∧ M < 4294967296 ^ 1024) := ⟨ha.1, hm.2.1⟩
  have hBt : Below w.heap.size w w := Below.refl _ _
  clear H
  go_enter Try.func63, Try.ntmps63
  go_wp2_with (first
    | (go_at_call 16; refine (Trim_num _ _ hm (by omega)).mono ?_; rintro e w' ⟨r1, rfl, hO1, hn1, hB⟩; replace hm := hm.below hB; replace ha := ha.below hB; replace hBt := hBt.trans (hB.mono hBt.size))
    | (go_at_call 70; refine (rest_num _ _ _ _ ha hm (by omega) (by omega) h0 HL.out).mono ?_; rintro e w' ⟨r2, rfl, hO2, hn2, hB⟩; replace hm := hm.below hB; replace hn1 := hn1.below hB; replace hO1 := hO1.below hB; replace hO2 := hO2.mono hBt.size; replace hBt := hBt.trans (hB.mono hBt.size))
    | (go_at_call 39; replace hn3 := hn3; refine (Small_num _ (by decide) (by decide)).mono ?_; rintro e w' ⟨r4, rfl, hO4, hn4, hB⟩; replace hm := hm.below hB; replace hn1 := hn1.below hB; replace hO1 := hO1.below hB; replace hn2 := hn2.below hB; replace hO2 := hO2.below hB; replace hn3 := hn3.below hB; replace hO3 := hO3.below hB; replace hO4 := hO4.mono hBt.size; replace hBt := hBt.trans (hB.mono hBt.size))
    | (go_at_call 39; refine (Small_num _ (by decide) (by decide)).mono ?_; rintro e w' ⟨r3, rfl, hO3, hn3, hB⟩; replace hm := hm.below hB; replace hn1 := hn1.below hB; replace hO1 := hO1.below hB; replace hn2 := hn2.below hB; replace hO2 := hO2.below hB; replace hO3 := hO3.mono hBt.size; replace hBt := hBt.trans (hB.mono hBt.size)))
  go_loopg [6, 7, 8, 9, 10] (A % M).toNat (fun gh rv xv fv gv nv wr => ∃ (r x f g : Int) (b : Bool), nv = .bool b ∧ gh = x.toNat ∧ Hid (Euc A M r x f g (sgn b)) ∧ Own w.heap.size wr rv (lim r.toNat) ∧ Num 1024 wr rv r ∧ Own w.heap.size wr xv (lim x.toNat) ∧ Num 1024 wr xv x ∧ Own w.heap.size wr fv (lim f.toNat) ∧ Num 1024 wr fv f ∧ Own w.heap.size wr gv (lim g.toNat) ∧ Num 1024 wr gv g ∧ Num 1024 wr m M ∧ Below w.heap.size w wr)
  case atStart => exact ⟨M, A % M, 0, 1, true, rfl, rfl, Euc.start A h0, hO1, hn1, hO2, hn2, hO3, hn3.mono (by decide), hO4, hn4.mono (by decide), hm, hBt⟩
  case round =>
    clear hO1 hn1 hO2 hn2 hO3 hn3 hO4 hn4 hm hBt ha
    obtain ⟨r, x, f, g, b, rfl, hgk, HE, hOr, hr, hOx, hx, hOf, hf, hOg, hg, hm, hBt⟩ := hrel
    obtain ⟨ax, cx, hvx⟩ := hOx.ne
    obtain ⟨af, cf, hvf⟩ := hOf.ne
    by_cases hx0 : x = 0
    · subst hx0
      have hlen : (lim (Int.toNat 0)).length = 0 := by simp [lim_zero]
      rw [hlen] at hvx
      subst hvx
      cases b with
      | false =>
        have HR : Hid (Bez A M r f ∧ Own w.heap.size wr u6 (lim r.toNat) ∧ Own w.heap.size wr u8 (lim f.toNat) ∧ Num 1024 wr u6 r) := ⟨HE.out.last rfl, hOr, hOf, hr⟩
        clear HE hgk hOx hx hOg hg hOr hOf hvf
        go_wp2
        go_ret2
        obtain ⟨h1, h2, h3, h4⟩ := HR.out
        exact ⟨_, _, r, f, rfl, h1, h2, h3, h4, hBt⟩
      | true =>
        by_cases hf0 : f = 0
        · subst hf0
          rw [hlen] at hvf
          have HR : Hid (Bez A M r 0 ∧ Own w.heap.size wr u6 (lim r.toNat) ∧ Own w.heap.size wr u8 (lim (Int.toNat 0)) ∧ Num 1024 wr u6 r) := ⟨HE.out.last0, hOr, hOf, hr⟩
          subst hvf
          clear HE hgk hOx hx hOg hg hOr hOf hlen
          go_wp2
          go_ret2
          obtain ⟨h1, h2, h3, h4⟩ := HR.out
          exact ⟨_, _, r, 0, rfl, h1, h2, h3, h4, hBt⟩
        · have hf1 : 0 < f := by have := hf.1; omega
          have hlf := len_pos hf1
          have hfM : f ≤ M := Int.le_trans HE.out.fg HE.out.gM
          have HR : Hid (Bez A M r (M - f) ∧ Own w.heap.size wr u6 (lim r.toNat) ∧ Num 1024 wr u6 r) := ⟨HE.out.lastN rfl hf1, hOr, hr⟩
          subst hvf
          clear HE hgk hOx hx hOg hg hOr hOf hlen hr
          go_wp2_with (go_at_call 50; refine (difference_num _ _ _ _ hm hf (by omega) hfM).mono ?_; rintro e w' ⟨rd, rfl, hOd, hnd, hB⟩)
          go_ret2
          obtain ⟨h1, h2, h4⟩ := HR.out
          exact ⟨_, _, r, M - f, rfl, h1, h2.below hB, hOd.mono hBt.size, h4.below hB, hBt.trans (hB.mono hBt.size)⟩
    · have hx1 : 0 < x := by have := hx.1; omega
      have hstep := HE.out.step hx1
      have hlen := len_pos hx1
      have HX : Hid (x < 4294967296 ∨ LongOK) := by
        have h1 := HE.out.xr; have h2 := HE.out.rM
        rcases HL.out with h | h
        · exact .inl (by omega)
        · exact .inr h
      have hf0 := hf.1; have hg0 := hg.1
      have HS : Hid (Euc A M x (r % x) g (f + r / x * g) (-sgn b) ∧ gk = x.toNat ∧ r % x < x ∧ 0 ≤ r % x ∧ 0 ≤ f + r / x * g ∧ f + r / x * g < 4294967296 ^ 1024) :=
        ⟨hstep, hgk, Int.emod_lt_of_pos _ hx1, Int.emod_nonneg _ (by omega), by have := hstep.fg; have := hstep.f0; omega, Int.lt_of_le_of_lt hstep.gM HA.out.2⟩
      have HOx : Hid (Own w.heap.size wr u7 (lim x.toNat)) := hOx
      have hf2 := hf.mono (k' := 1024 + 1024) (by decide)
      subst hvx
      clear HE hgk hstep hvf hOr hOf hf hx0 hOx
      go_wp2_with (first
        | (go_at_call 57; refine (divide_num _ _ _ _ hr hx (by omega) (by omega) hx1 HX.out).mono ?_; rintro e w' ⟨q, l, rfl, hOq, hOl, hq, hl, hB⟩; replace hm := hm.below hB; replace hx := hx.below hB; replace hf2 := hf2.below hB; replace hg := hg.below hB; replace hOg := hOg.below hB; replace hOl := hOl.mono hBt.size; replace HOx : Hid (Own w.heap.size w' (.slice ax (lim x.toNat).length cx) (lim x.toNat)) := HOx.out.below hB; replace hBt := hBt.trans (hB.mono hBt.size))
        | (go_at_call 55; refine (product_num _ _ _ _ hq hg (by omega) (by omega)).mono ?_; rintro e w' ⟨p, rfl, hOp, hp, hB⟩; replace hm := hm.below hB; replace hx := hx.below hB; replace hf2 := hf2.below hB; replace hg := hg.below hB; replace hOg := hOg.below hB; replace hOl := hOl.below hB; replace hl := hl.below hB; replace HOx : Hid (Own w.heap.size w' (.slice ax (lim x.toNat).length cx) (lim x.toNat)) := HOx.out.below hB; replace hBt := hBt.trans (hB.mono hBt.size))
        | (go_at_call 44; refine (sum_num _ _ _ _ hf2 hp (by omega)).mono ?_; rintro e w' ⟨s, rfl, hOs, hs, hB⟩; replace hm := hm.below hB; replace hx := hx.below hB; replace hg := hg.below hB; replace hOg := hOg.below hB; replace hOl := hOl.below hB; replace hl := hl.below hB; replace hOs := hOs.mono hBt.size; replace HOx : Hid (Own w.heap.size w' (.slice ax (lim x.toNat).length cx) (lim x.toNat)) := HOx.out.below hB; replace hBt := hBt.trans (hB.mono hBt.size)))
      go_roundg (r % x).toNat
      case measure => have h := HS.out; omega
      case rel =>
        obtain ⟨h1, h2, h3, h4, h5, h6⟩ := HS.out
        have hsg : -sgn b = sgn (!b) := by cases b <;> rfl
        rw [hsg] at h1
        exact ⟨x, r % x, g, _, !b, rfl, rfl, h1, HOx.out, hx, hOl, hl, hOg, hg, hOs, Num.of_own hOs h5 h6, hm, hBt⟩
end Go.Proofs.Ythkheocggcmooaa
