/-
  The walk of the reference's Inverse: Euclid's rests.
-/
import Derived.Test.YthkheocggcmooaaW40
import Derived.Test.YthkheocggcmooaaW15
import Derived.Deep.LoopGhost
namespace Go.Proofs.Ythkheocggcmooaa
open Go.RowKit

/-- What stands between two rounds: rests s, r; each is, modulo M, A times y, x. -/
structure Rst (A M s r x y : Int) : Prop where
  r0 : 0 ≤ r
  rs : r < s
  sM : s ≤ M
  x0 : 0 ≤ x
  xM : x ≤ M
  y0 : 0 ≤ y
  yM : y ≤ M
  cx : ∃ k, A * x = r + M * k
  cy : ∃ k, A * y = s + M * k
  dv : ∀ d : Int, (d ∣ s ∧ d ∣ r) ↔ (d ∣ A ∧ d ∣ M)
theorem Rst.start (A : Int) {M : Int} (hM : 0 < M) : Rst A M M (A % M) 1 0 where
  r0 := Int.emod_nonneg _ (by omega)
  rs := Int.emod_lt_of_pos _ hM
  sM := Int.le_refl _
  x0 := by decide
  xM := hM
  y0 := by decide
  yM := by omega
  cx := ⟨A / M, by have := Int.mul_ediv_add_emod A M; omega⟩
  cy := ⟨-1, by omega⟩
  dv := fun d => by
    have h := Int.mul_ediv_add_emod A M
    constructor
    · rintro ⟨h1, h2⟩
      exact ⟨by rw [← h]; exact Int.dvd_add (Int.dvd_trans h1 (Int.dvd_mul_right _ _)) h2, h1⟩
    · rintro ⟨h1, h2⟩
      refine ⟨h2, ?_⟩
      have e : A % M = A - M * (A / M) := by omega
      rw [e]; exact Int.dvd_sub h1 (Int.dvd_trans h2 (Int.dvd_mul_right _ _))
theorem Rst.step {A M s r x y : Int} (h : Rst A M s r x y) (hM : 0 < M) (hr : 0 < r) : Rst A M r (s % r) ((y + (M - s / r * x % M)) % M) x where
  r0 := Int.emod_nonneg _ (by omega)
  rs := Int.emod_lt_of_pos _ hr
  sM := by have := h.rs; have := h.sM; omega
  x0 := Int.emod_nonneg _ (by omega)
  xM := by have := Int.emod_lt_of_pos (y + (M - s / r * x % M)) hM; omega
  y0 := h.x0
  yM := h.xM
  cx := by
    obtain ⟨k, hk⟩ := h.cx
    obtain ⟨j, hj⟩ := h.cy
    have h1 := Int.mul_ediv_add_emod (y + (M - s / r * x % M)) M
    have h2 := Int.mul_ediv_add_emod (s / r * x) M
    have h3 := Int.mul_ediv_add_emod s r
    obtain ⟨u, hu⟩ : ∃ u, (y + (M - s / r * x % M)) % M = u := ⟨_, rfl⟩
    obtain ⟨p, hp⟩ : ∃ p, (y + (M - s / r * x % M)) / M = p := ⟨_, rfl⟩
    obtain ⟨t, ht⟩ : ∃ t, s / r * x % M = t := ⟨_, rfl⟩
    obtain ⟨o, ho⟩ : ∃ o, s / r * x / M = o := ⟨_, rfl⟩
    obtain ⟨q, hq⟩ : ∃ q, s / r = q := ⟨_, rfl⟩
    obtain ⟨e, he⟩ : ∃ e, s % r = e := ⟨_, rfl⟩
    rw [hu, hp] at h1
    rw [hu, he]
    rw [ht] at h1
    rw [ht, ho] at h2
    rw [hq] at h2 h3
    rw [he] at h3
    refine ⟨j - q * k + A * (1 + o - p), ?_⟩
    have e1 : u = y + (M - t) - M * p := by omega
    have e2 : t = q * x - M * o := by omega
    have e3 : e = s - r * q := by omega
    rw [e1, e2, e3]
    grind
  cy := h.cx
  dv := fun d => by
    have hq := Int.mul_ediv_add_emod s r
    rw [← h.dv d]
    constructor
    · rintro ⟨h1, h2⟩
      exact ⟨by rw [← hq]; exact Int.dvd_add (Int.dvd_trans h1 (Int.dvd_mul_right _ _)) h2, h1⟩
    · rintro ⟨h1, h2⟩
      refine ⟨h2, ?_⟩
      have e : s % r = s - r * (s / r) := by omega
      rw [e]; exact Int.dvd_sub h1 (Int.dvd_trans h2 (Int.dvd_mul_right _ _))
theorem Rst.no {A M s x y : Int} (h : Rst A M s 0 x y) (h1 : s ≠ 1) : ∃ D, 1 < D ∧ D ∣ A ∧ D ∣ M :=
  ⟨s, by have := h.rs; omega, (h.dv s).1 ⟨Int.dvd_refl s, Int.dvd_zero s⟩⟩
theorem Rst.yes {A M x y : Int} (h : Rst A M 1 0 x y) (hM : 0 < M) : 0 ≤ y % M ∧ y % M < M ∧ ∃ t, A * (y % M) = 1 + M * t := by
  refine ⟨Int.emod_nonneg _ (by omega), Int.emod_lt_of_pos _ hM, ?_⟩
  obtain ⟨k, hk⟩ := h.cy
  have h1 := Int.mul_ediv_add_emod y M
  refine ⟨k - A * (y / M), ?_⟩
  have e : y % M = y - M * (y / M) := by omega
  rw [e]; grind

theorem sl_none64 (w : World) : Sl .u64 w (.slice none 0 0) (D.lim (Int.toNat 0)) := ⟨none, 0, rfl, Nat.le_refl _, .inl rfl⟩
theorem lim16_one : D.lim (Int.toNat 1) = [1] := by decide

set_option maxHeartbeats 4000000 in
set_option maxRecDepth 20000 in
theorem RInverse_any (X Y : List Int) (v u : Value) (w : World) (hX : Sl .u32 w v X) (hY : Sl .u32 w u Y) (uX : U32s X) (uY : U32s Y) :
    Calls Try.prog 32 #[v, u] w fun e w' => ∃ s, InvS X Y s ∧ RTwo w' e s ∧ Below w.heap.size w w' := by
  have hBt : Below w.heap.size w w := Below.refl _ _
  by_cases hlong : 512 < X.length ∨ 512 < Y.length
  · have hb : (decide (512 < X.length) || decide (512 < Y.length)) = true := by simpa using hlong
    have HL : Hid (InvS X Y ([], 3)) := by unfold InvS; rw [if_pos hlong]; rfl
    clear hlong
    go_enter Try.func32, Try.ntmps32
    go_wp2_with (go_at_call 46; refine (long_any _ _ _ X Y hX hY true (by assumption)).mono ?_; rintro e w' ⟨rfl, rfl⟩)
    go_ret2
    exact ⟨_, HL.out, RTwo.nil' rfl, Below.refl _ _⟩
  have hb : (decide (512 < X.length) || decide (512 < Y.length)) = false := by simpa using hlong
  have lX : X.length ≤ 512 := by omega
  have lY : Y.length ≤ 512 := by omega
  obtain ⟨A, hNX⟩ : ∃ n, val X = n := ⟨_, rfl⟩
  obtain ⟨M, hNY⟩ : ∃ n, val Y = n := ⟨_, rfl⟩
  have HX : Hid (val X = A) := hNX
  have HY : Hid (val Y = M) := hNY
  have nX : 0 ≤ A := hNX ▸ val_nonneg uX
  have nY : 0 ≤ M := hNY ▸ val_nonneg uY
  have bX := val_lt uX; have bY := val_lt uY
  rw [hNX] at bX; rw [hNY] at bY
  have dX : (D.lim A.toNat).length ≤ 2 * X.length := D.lim_fits nX (by rw [pow16_32]; exact bX)
  have dY : (D.lim M.toNat).length ≤ 2 * Y.length := D.lim_fits nY (by rw [pow16_32]; exact bY)
  by_cases h0 : M = 0
  · have HL : Hid (InvS X Y ([], 11)) := by unfold InvS; rw [if_neg hlong, hNY, if_pos h0]; rfl
    have hdl : D.lim M.toNat = [] := by rw [h0]; rfl
    have HD : Hid (D.lim M.toNat = []) := hdl
    clear hlong hdl hNX hNY bX bY dX dY nX nY h0
    go_enter Try.func32, Try.ntmps32
    go_wp2_with (first
      | (go_at_call 46; refine (long_any _ _ _ X Y hX hY false (by assumption)).mono ?_; rintro e w' ⟨rfl, rfl⟩)
      | (go_at_call 49; refine (Digits_any _ Y hY uY (by omega) M HY.out).mono ?_; rintro e w' ⟨q, rfl, hq, hB⟩; rw [HD.out] at hq; replace hBt := grow0 hBt hB; obtain ⟨aq, cq, hqv, _⟩ := hq.len; simp only [List.length_nil] at hqv; subst hqv))
    go_ret2
    exact ⟨_, HL.out, RTwo.nil' rfl, hBt⟩
  have hM : 0 < M := by omega
  have hdp : (D.lim M.toNat).length ≠ 0 := fun h => by have := (D.len_val (n := M.toNat)).1 h; omega
  obtain ⟨ld, hld⟩ : ∃ ld, (D.lim M.toNat).length = ld + 1 := ⟨(D.lim M.toNat).length - 1, by omega⟩
  have HLD : Hid ((D.lim M.toNat).length = ld + 1) := hld
  have hld0 : ((ld : Int) + 1 == 0) = false := by simp; omega
  have hMb : M < 65536 ^ 1024 := by
    calc M < 4294967296 ^ Y.length := bY
      _ ≤ 4294967296 ^ 512 := pow_mono lY
      _ = 65536 ^ 1024 := (pow16_32 512).symm
  have HMb : Hid (M < 65536 ^ 1024) := hMb
  have HI : Hid (∀ s, ((∃ G, 0 ≤ G ∧ G < M ∧ (∃ t, A * G = 1 + M * t) ∧ s = (lim G.toNat, (0 : Int))) ∨ (∃ D, 1 < D ∧ D ∣ A ∧ D ∣ M ∧ s = ([], 5))) → InvS X Y s) := by
    intro s hs; unfold InvS; rw [if_neg hlong, hNY, if_neg h0, hNX]; exact hs
  obtain ⟨R0, hR0⟩ : ∃ R, A % M = R := ⟨_, rfl⟩
  have HR0 : Hid (D.val (D.lim A.toNat) % M = R0) := by rw [D.val_limI nX]; exact hR0
  have HST : Hid (Rst A M M R0 1 0) := hR0 ▸ Rst.start A hM
  have ldl : ld + 1 ≤ 1024 := by omega
  clear hlong hNX hNY bX bY nX nY h0 hdp hld hMb hR0
  go_enter Try.func32, Try.ntmps32
  go_wp2_with (first
    | (go_at_call 46; refine (long_any _ _ _ X Y hX hY false (by assumption)).mono ?_; rintro e w' ⟨rfl, rfl⟩)
    | (go_at_call 49; replace hd := hd; refine (Digits_any _ X hX uX (by omega) A HX.out).mono ?_; rintro e w' ⟨p, rfl, hp, hB⟩; replace hd := below_sl hB hd; replace hBt := grow0 hBt hB)
    | (go_at_call 49; refine (Digits_any _ Y hY uY (by omega) M HY.out).mono ?_; rintro e w' ⟨d, rfl, hd, hB⟩; replace hX := below_sl hB hX; replace hBt := grow0 hBt hB; obtain ⟨aq, cq, hqv, _⟩ := hd.len; rw [HLD.out] at hqv; subst hqv)
    | (go_at_call 58; refine (divmod_any _ _ _ M hp hd (D.lim_u16 _) hM (by omega) (by omega) _ R0 rfl HR0.out).mono ?_; rintro e w3 ⟨s0, r0, rfl, _, hr0, hB⟩; replace hd := below_sl hB hd; replace hBt := grow0 hBt hB; clear hp hX hY))
  have hd3 := hd
  have hBt3 := hBt
  clear hd hBt
  go_loopg [8, 9, 10, 11] R0.toNat (fun gh rv sv xv yv wr => ∃ s r x y : Int, gh = r.toNat ∧ Hid (Rst A M s r x y) ∧ Sl .u64 wr rv (D.lim r.toNat) ∧ Sl .u64 wr sv (D.lim s.toNat) ∧ Sl .u64 wr xv (D.lim x.toNat) ∧ Sl .u64 wr yv (D.lim y.toNat) ∧ Sl .u64 wr (.slice aq (ld + 1) cq) (D.lim M.toNat) ∧ Below w.heap.size w wr)
  case atStart =>
    refine ⟨M, R0, 1, 0, rfl, HST.out, al1 hr0, al1 hd3, ?_, sl_none64 _, al1 hd3, al hBt3⟩
    rw [lim16_one]; exact Arr.sl64 (S := [1]) (arr_new rfl rfl)
  case round =>
    clear hr0 hd3 hBt3 HST HR0
    obtain ⟨s, r, x, y, hgk, HE, hr, hs, hx, hy, hd, hBt⟩ := hrel
    have b1 := HE.out.r0; have b2 := HE.out.rs; have b3 := HE.out.sM; have b4 := HE.out.x0; have b5 := HE.out.xM; have b6 := HE.out.y0; have b7 := HE.out.yM
    have ls : (D.lim s.toNat).length ≤ 1024 := D.lim_fits (by omega) (by have := HMb.out; omega)
    have lr : (D.lim r.toNat).length ≤ 1024 := D.lim_fits (by omega) (by have := HMb.out; omega)
    have lx : (D.lim x.toNat).length ≤ 1024 := D.lim_fits (by omega) (by have := HMb.out; omega)
    have ly : (D.lim y.toNat).length ≤ 1024 := D.lim_fits (by omega) (by have := HMb.out; omega)
    have lm : (D.lim M.toNat).length ≤ 1024 := D.lim_fits (by omega) (by have := HMb.out; omega)
    obtain ⟨ar, cr, hvr, _⟩ := hr.len
    by_cases hr0 : r = 0
    · subst hr0
      have hz : (D.lim (Int.toNat 0)).length = 0 := rfl
      rw [hz] at hvr
      clear hr hz
      subst hvr
      have u1 : D.U16s [1] := D.U16s.cons ⟨by decide, by decide⟩ D.U16s.nil
      by_cases hs1 : s = 1
      · subst hs1
        have HC : Hid (cmpI (D.val (D.lim (Int.toNat 1))) (D.val [1]) = 0) := by rw [lim16_one]; rfl
        obtain ⟨G, hG⟩ : ∃ G, y % M = G := ⟨_, rfl⟩
        have g0 : 0 ≤ G := by rw [← hG]; exact Int.emod_nonneg _ (by omega)
        have g1 : G < M := by rw [← hG]; exact Int.emod_lt_of_pos _ hM
        have lG : (D.lim G.toNat).length ≤ 1024 := D.lim_fits g0 (by have := HMb.out; omega)
        have HG : Hid (D.val (D.lim y.toNat) % M = G) := by rw [D.val_limI b6]; exact hG
        have HGV : Hid (D.val (D.lim G.toNat) = G) := D.val_limI g0
        have HR : Hid (0 ≤ G ∧ G < M ∧ ∃ t, A * G = 1 + M * t) := by rw [← hG]; exact HE.out.yes hM
        clear HE hG g0 g1 hgk
        go_wp2_with (first
          | (go_at_call 54; refine (order_any _ _ _ [1] (al1 hs) (Arr.sl64 (S := [1]) (arr_new rfl rfl)) (D.lim_u16 _) u1 (by omega) (by decide) 0 HC.out).mono ?_; rintro e w' ⟨rfl, rfl⟩)
          | (go_at_call 58; refine (divmod_any _ _ _ M (al1 hy) (al1 hd) (D.lim_u16 _) hM (by omega) (by omega) _ G rfl HG.out).mono ?_; rintro e w' ⟨q2, t2, rfl, _, ht2, hB⟩; replace hBt := grow0 (al hBt) hB)
          | (go_at_call 47; refine (Limbs_any _ _ ht2 (D.lim_u16 _) (by omega) G HGV.out).mono ?_; rintro e w' ⟨o, rfl, ho, hB⟩; replace hBt := grow0 hBt hB))
        go_ret2
        obtain ⟨h1, h2, h3⟩ := HR.out
        exact ⟨_, HI.out _ (.inl ⟨G, h1, h2, h3, rfl⟩), RTwo.mk' ho rfl, hBt⟩
      · have HC : Hid (cmpI (D.val (D.lim s.toNat)) (D.val [1]) = 1) := by
          rw [D.val_limI (by omega), show D.val [1] = 1 by decide]; unfold cmpI; rw [if_neg (by omega), if_pos (by omega)]; rfl
        have HR := HE.out.no hs1
        have HRh : Hid (∃ D, 1 < D ∧ D ∣ A ∧ D ∣ M) := HR
        clear HE HR hgk
        go_wp2_with (first
          | (go_at_call 54; refine (order_any _ _ _ [1] (al1 hs) (Arr.sl64 (S := [1]) (arr_new rfl rfl)) (D.lim_u16 _) u1 (by omega) (by decide) 1 HC.out).mono ?_; rintro e w' ⟨rfl, rfl⟩))
        go_ret2
        obtain ⟨D, h1, h2, h3⟩ := HRh.out
        exact ⟨_, HI.out _ (.inr ⟨D, h1, h2, h3, rfl⟩), RTwo.nil' rfl, al hBt⟩
    · have hrp : 0 < r := by omega
      have hne : (D.lim r.toNat).length ≠ 0 := fun h => by have := (D.len_val (n := r.toNat)).1 h; omega
      obtain ⟨lr', hlr⟩ : ∃ n, (D.lim r.toNat).length = n + 1 := ⟨(D.lim r.toNat).length - 1, by omega⟩
      rw [hlr] at hvr
      subst hvr
      have hst := HE.out.step hM hrp
      obtain ⟨q, hq⟩ : ∃ q, s / r = q := ⟨_, rfl⟩
      obtain ⟨e2, he⟩ : ∃ e, s % r = e := ⟨_, rfl⟩
      obtain ⟨p, hp⟩ : ∃ p, q * x = p := ⟨_, rfl⟩
      obtain ⟨t, ht⟩ : ∃ t, p % M = t := ⟨_, rfl⟩
      obtain ⟨f, hf⟩ : ∃ f, M - t = f := ⟨_, rfl⟩
      obtain ⟨g, hg⟩ : ∃ g, y + f = g := ⟨_, rfl⟩
      obtain ⟨z, hz⟩ : ∃ z, g % M = z := ⟨_, rfl⟩
      rw [hq, he, hp, ht, hf, hg, hz] at hst
      have q0 : 0 ≤ q := by rw [← hq]; exact Int.ediv_nonneg (by omega) (by omega)
      have q1 : q ≤ s := by rw [← hq]; exact Int.ediv_le_self _ (by omega)
      have p0 : 0 ≤ p := by rw [← hp]; exact Int.mul_nonneg q0 b4
      have t0 : 0 ≤ t := by rw [← ht]; exact Int.emod_nonneg _ (by omega)
      have t1 : t < M := by rw [← ht]; exact Int.emod_lt_of_pos _ hM
      have e0 : 0 ≤ e2 := by rw [← he]; exact Int.emod_nonneg _ (by omega)
      have e1 : e2 < r := by rw [← he]; exact Int.emod_lt_of_pos _ hrp
      have lq : (D.lim q.toNat).length ≤ 1024 := D.lim_fits q0 (by have := HMb.out; omega)
      have lp : (D.lim p.toNat).length ≤ 2048 := D.lim_fits p0 (by
        have h1 := HMb.out
        rw [show 2048 = 1024 + 1024 by rfl, Int.pow_add, ← hp]
        have h2 : q < 65536 ^ 1024 := by omega
        have h3 : x < 65536 ^ 1024 := by omega
        calc q * x ≤ q * 65536 ^ 1024 := Int.mul_le_mul_of_nonneg_left (by omega) q0
          _ < 65536 ^ 1024 * 65536 ^ 1024 := Int.mul_lt_mul_of_pos_right h2 (D.pow_pos16 _))
      have lt : (D.lim t.toNat).length ≤ 1024 := D.lim_fits t0 (by have := HMb.out; omega)
      have lf : (D.lim f.toNat).length ≤ 1024 := D.lim_fits (by omega) (by have := HMb.out; omega)
      have lg : (D.lim g.toNat).length ≤ 1025 := D.lim_fits (by omega) (by have := HMb.out; rw [D.pow_succ16]; omega)
      have HQ : Hid (D.val (D.lim s.toNat) / r = q) := by rw [D.val_limI (by omega)]; exact hq
      have HE2 : Hid (D.val (D.lim s.toNat) % r = e2) := by rw [D.val_limI (by omega)]; exact he
      have HP : Hid (D.val (D.lim q.toNat) * D.val (D.lim x.toNat) = p) := by rw [D.val_limI q0, D.val_limI b4]; exact hp
      have HT : Hid (D.val (D.lim p.toNat) % M = t) := by rw [D.val_limI p0]; exact ht
      have HF : Hid (D.val (D.lim M.toNat) - D.val (D.lim t.toNat) = f) := by rw [D.val_limI (by omega), D.val_limI t0]; exact hf
      have HG : Hid (D.val (D.lim y.toNat) + D.val (D.lim f.toNat) = g) := by rw [D.val_limI b6, D.val_limI (by omega)]; exact hg
      have HZ : Hid (D.val (D.lim g.toNat) % M = z) := by rw [D.val_limI (by omega)]; exact hz
      have f0 : 0 ≤ f := by omega
      have HST : Hid (Rst A M r e2 z x) := hst
      have HM : Hid (e2 < r ∧ 0 ≤ e2 ∧ gk = r.toNat) := ⟨e1, e0, hgk⟩
      clear HE hgk hq he hp ht hf hg hz hst q0 q1 p0 t0 t1 e0 e1 hne hlr b1 b2 b3 b4 b5 b6 b7 hr0
      go_wp2_with (first
        | (go_at_call 58; replace hp := hp; replace ht := ht; replace hk := hk; refine (divmod_any _ _ _ M hk hd (D.lim_u16 _) hM (by omega) (by omega) _ z rfl HZ.out).mono ?_; rintro e w' ⟨q4, z4, rfl, _, hz, hB⟩; replace hr := below_sl hB hr; replace hx := below_sl hB hx; replace hd := below_sl hB hd; replace hrest := below_sl hB hrest; replace hBt := grow0 hBt hB)
        | (go_at_call 48; refine (add_any _ _ _ _ hy hf (D.lim_u16 _) (D.lim_u16 _) (by omega) (by omega) g HG.out).mono ?_; rintro e w' ⟨k4, rfl, hk, hB⟩; replace hr := below_sl hB hr; replace hx := below_sl hB hx; replace hd := below_sl hB hd; replace hrest := below_sl hB hrest; replace hBt := grow0 hBt hB)
        | (go_at_call 51; refine (sub_any _ _ _ _ hd ht (D.lim_u16 _) (D.lim_u16 _) (by omega) (by omega) f HF.out f0).mono ?_; rintro e w' ⟨f4, rfl, hf, hB⟩; replace hr := below_sl hB hr; replace hx := below_sl hB hx; replace hy := below_sl hB hy; replace hd := below_sl hB hd; replace hrest := below_sl hB hrest; replace hBt := grow0 hBt hB)
        | (go_at_call 58; replace hp := hp; refine (divmod_any _ _ _ M hp hd (D.lim_u16 _) hM (by omega) (by omega) _ t rfl HT.out).mono ?_; rintro e w' ⟨q3, t3, rfl, _, ht, hB⟩; replace hr := below_sl hB hr; replace hx := below_sl hB hx; replace hy := below_sl hB hy; replace hd := below_sl hB hd; replace hrest := below_sl hB hrest; replace hBt := grow0 hBt hB)
        | (go_at_call 56; refine (mul_any _ _ _ _ hq hx (D.lim_u16 _) (D.lim_u16 _) (by omega) (by omega) p HP.out).mono ?_; rintro e w' ⟨p3, rfl, hp, hB⟩; replace hr := below_sl hB hr; replace hx := below_sl hB hx; replace hy := below_sl hB hy; replace hd := below_sl hB hd; replace hrest := below_sl hB hrest; replace hBt := grow0 hBt hB)
        | (go_at_call 58; refine (divmod_any _ _ _ r hs hr (D.lim_u16 _) hrp (by omega) (by omega) q e2 HQ.out HE2.out).mono ?_; rintro e w' ⟨q5, r5, rfl, hq, hrest, hB⟩; replace hr := below_sl hB hr; replace hx := below_sl hB hx; replace hy := below_sl hB hy; replace hd := below_sl hB hd; replace hBt := grow0 hBt hB))
      go_roundg e2.toNat
      case measure => have h := HM.out; omega
      case rel => exact ⟨r, e2, z, x, rfl, HST.out, hrest, hr, hz, hx, hd, hBt⟩
end Go.Proofs.Ythkheocggcmooaa
