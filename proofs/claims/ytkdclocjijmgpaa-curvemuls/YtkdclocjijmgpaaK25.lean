/-
  The walk of the reference's DivMod.
-/
import Derived.Deep.LoopGhost
import Derived.Test.YtkdclocjijmgpaaK24
namespace Go.Proofs.Ytkdclocjijmgpaa.Nt
open Go.RowKit

def RThree (w : World) (e : Ending) (s : List Int × List Int × Int) : Prop := ∃ q r, e = .returned (.tuple #[q, r, .int .i64 s.2.2]) ∧ Sl .u32 w q s.1 ∧ Sl .u32 w r s.2.1
theorem sl_none (w : World) : Sl .u32 w (.slice none 0 0) [] := ⟨none, 0, rfl, Nat.le_refl _, .inl rfl⟩
theorem RThree.nil' {w : World} {n : Int} {s : List Int × List Int × Int} (hs : s = ([], [], n)) : RThree w (.returned (.tuple #[.slice none 0 0, .slice none 0 0, .int .i64 n])) s := by
  subst hs; exact ⟨_, _, rfl, sl_none _, sl_none _⟩
theorem RThree.mk' {w : World} {q r : Value} {n : Int} {L M : List Int} {s : List Int × List Int × Int} (h : Sl .u32 w q L) (h' : Sl .u32 w r M) (hs : s = (L, M, n)) : RThree w (.returned (.tuple #[q, r, .int .i64 n])) s := by
  subst hs; exact ⟨q, r, rfl, h, h'⟩

end Go.Proofs.Ytkdclocjijmgpaa.Nt
/-
  The walk of the reference's Inverse: Euclid's rests.
-/
namespace Go.Proofs.Ytkdclocjijmgpaa.Nt
open Go.RowKit

/-- What stands between two rounds: rests s, r; each is, modulo M, A times y, x. -/
structure Rst (A M s r x y : Int) : Prop where
  r0 : 0 ≤ r
  rs : r < s
  sM : s ≤ M
  x0 : 0 ≤ x
  xM : x ≤ M
  y0 : 0 ≤ y
  yM : y ≤ M
  cx : ∃ k, A * x = r + M * k
  cy : ∃ k, A * y = s + M * k
  dv : ∀ d : Int, (d ∣ s ∧ d ∣ r) ↔ (d ∣ A ∧ d ∣ M)
theorem Rst.start (A : Int) {M : Int} (hM : 0 < M) : Rst A M M (A % M) 1 0 where
  r0 := Int.emod_nonneg _ (by omega)
  rs := Int.emod_lt_of_pos _ hM
  sM := Int.le_refl _
  x0 := by decide
  xM := hM
  y0 := by decide
  yM := by omega
  cx := ⟨A / M, by have := Int.mul_ediv_add_emod A M; omega⟩
  cy := ⟨-1, by omega⟩
  dv := fun d => by
    have h := Int.mul_ediv_add_emod A M
    constructor
    · rintro ⟨h1, h2⟩
      exact ⟨by rw [← h]; exact Int.dvd_add (Int.dvd_trans h1 (Int.dvd_mul_right _ _)) h2, h1⟩
    · rintro ⟨h1, h2⟩
      refine ⟨h2, ?_⟩
      have e : A % M = A - M * (A / M) := by omega
      rw [e]; exact Int.dvd_sub h1 (Int.dvd_trans h2 (Int.dvd_mul_right _ _))
theorem Rst.step {A M s r x y : Int} (h : Rst A M s r x y) (hM : 0 < M) (hr : 0 < r) : Rst A M r (s % r) ((y + (M - s / r * x % M)) % M) x where
  r0 := Int.emod_nonneg _ (by omega)
  rs := Int.emod_lt_of_pos _ hr
  sM := by have := h.rs; have := h.sM; omega
  x0 := Int.emod_nonneg _ (by omega)
  xM := by have := Int.emod_lt_of_pos (y + (M - s / r * x % M)) hM; omega
  y0 := h.x0
  yM := h.xM
  cx := by
    obtain ⟨k, hk⟩ := h.cx
    obtain ⟨j, hj⟩ := h.cy
    have h1 := Int.mul_ediv_add_emod (y + (M - s / r * x % M)) M
    have h2 := Int.mul_ediv_add_emod (s / r * x) M
    have h3 := Int.mul_ediv_add_emod s r
    obtain ⟨u, hu⟩ : ∃ u, (y + (M - s / r * x % M)) % M = u := ⟨_, rfl⟩
    obtain ⟨p, hp⟩ : ∃ p, (y + (M - s / r * x % M)) / M = p := ⟨_, rfl⟩
    obtain ⟨t, ht⟩ : ∃ t, s / r * x % M = t := ⟨_, rfl⟩
    obtain ⟨o, ho⟩ : ∃ o, s / r * x / M = o := ⟨_, rfl⟩
    obtain ⟨q, hq⟩ : ∃ q, s / r = q := ⟨_, rfl⟩
    obtain ⟨e, he⟩ : ∃ e, s % r = e := ⟨_, rfl⟩
    rw [hu, hp] at h1
    rw [hu, he]
    rw [ht] at h1
    rw [ht, ho] at h2
    rw [hq] at h2 h3
    rw [he] at h3
    refine ⟨j - q * k + A * (1 + o - p), ?_⟩
    have e1 : u = y + (M - t) - M * p := by omega
    have e2 : t = q * x - M * o := by omega
    have e3 : e = s - r * q := by omega
    rw [e1, e2, e3]
    grind
  cy := h.cx
  dv := fun d => by
    have hq := Int.mul_ediv_add_emod s r
    rw [← h.dv d]
    constructor
    · rintro ⟨h1, h2⟩
      exact ⟨by rw [← hq]; exact Int.dvd_add (Int.dvd_trans h1 (Int.dvd_mul_right _ _)) h2, h1⟩
    · rintro ⟨h1, h2⟩
      refine ⟨h2, ?_⟩
      have e : s % r = s - r * (s / r) := by omega
      rw [e]; exact Int.dvd_sub h1 (Int.dvd_trans h2 (Int.dvd_mul_right _ _))
theorem Rst.no {A M s x y : Int} (h : Rst A M s 0 x y) (h1 : s ≠ 1) : ∃ D, 1 < D ∧ D ∣ A ∧ D ∣ M :=
  ⟨s, by have := h.rs; omega, (h.dv s).1 ⟨Int.dvd_refl s, Int.dvd_zero s⟩⟩
theorem Rst.yes {A M x y : Int} (h : Rst A M 1 0 x y) (hM : 0 < M) : 0 ≤ y % M ∧ y % M < M ∧ ∃ t, A * (y % M) = 1 + M * t := by
  refine ⟨Int.emod_nonneg _ (by omega), Int.emod_lt_of_pos _ hM, ?_⟩
  obtain ⟨k, hk⟩ := h.cy
  have h1 := Int.mul_ediv_add_emod y M
  refine ⟨k - A * (y / M), ?_⟩
  have e : y % M = y - M * (y / M) := by omega
  rw [e]; grind

theorem sl_none64 (w : World) : Sl .u64 w (.slice none 0 0) (D.lim (Int.toNat 0)) := ⟨none, 0, rfl, Nat.le_refl _, .inl rfl⟩
theorem lim16_one : D.lim (Int.toNat 1) = [1] := by decide

set_option maxHeartbeats 4000000 in
set_option maxRecDepth 20000 in
theorem RInverse_any (X Y : List Int) (v u : Value) (w : World) (hX : Sl .u32 w v X) (hY : Sl .u32 w u Y) (uX : U32s X) (uY : U32s Y) :
    Calls Try.prog 56 #[v, u] w fun e w' => ∃ s, InvS X Y s ∧ RTwo w' e s ∧ Below w.heap.size w w' := by
  have hBt : Below w.heap.size w w := Below.refl _ _
  by_cases hlong : 512 < X.length ∨ 512 < Y.length
  · have hb : (decide (512 < X.length) || decide (512 < Y.length)) = true := by simpa using hlong
    have HL : Hid (InvS X Y ([], 3)) := by unfold InvS; rw [if_pos hlong]; rfl
    clear hlong
    go_enter Try.func56, Try.ntmps56
    go_wp2_with (go_at_call 67; refine (long_any _ _ _ X Y hX hY true (by assumption)).mono ?_; rintro e w' ⟨rfl, rfl⟩)
    go_ret2
    exact ⟨_, HL.out, RTwo.nil' rfl, Below.refl _ _⟩
  have hb : (decide (512 < X.length) || decide (512 < Y.length)) = false := by simpa using hlong
  have lX : X.length ≤ 512 := by omega
  have lY : Y.length ≤ 512 := by omega
  obtain ⟨A, hNX⟩ : ∃ n, val X = n := ⟨_, rfl⟩
  obtain ⟨M, hNY⟩ : ∃ n, val Y = n := ⟨_, rfl⟩
  have HX : Hid (val X = A) := hNX
  have HY : Hid (val Y = M) := hNY
  have nX : 0 ≤ A := hNX ▸ val_nonneg uX
  have nY : 0 ≤ M := hNY ▸ val_nonneg uY
  have bX := val_lt uX; have bY := val_lt uY
  rw [hNX] at bX; rw [hNY] at bY
  have dX : (D.lim A.toNat).length ≤ 2 * X.length := D.lim_fits nX (by rw [pow16_32]; exact bX)
  have dY : (D.lim M.toNat).length ≤ 2 * Y.length := D.lim_fits nY (by rw [pow16_32]; exact bY)
  by_cases h0 : M = 0
  · have HL : Hid (InvS X Y ([], 11)) := by unfold InvS; rw [if_neg hlong, hNY, if_pos h0]; rfl
    have hdl : D.lim M.toNat = [] := by rw [h0]; rfl
    have HD : Hid (D.lim M.toNat = []) := hdl
    clear hlong hdl hNX hNY bX bY dX dY nX nY h0
    go_enter Try.func56, Try.ntmps56
    go_wp2_with (first
      | (go_at_call 67; refine (long_any _ _ _ X Y hX hY false (by assumption)).mono ?_; rintro e w' ⟨rfl, rfl⟩)
      | (go_at_call 71; refine (Digits_any _ Y hY uY (by omega) M HY.out).mono ?_; rintro e w' ⟨q, rfl, hq, hB⟩; rw [HD.out] at hq; replace hBt := grow0 hBt hB; obtain ⟨aq, cq, hqv, _⟩ := hq.len; simp only [List.length_nil] at hqv; subst hqv))
    go_ret2
    exact ⟨_, HL.out, RTwo.nil' rfl, hBt⟩
  have hM : 0 < M := by omega
  have hdp : (D.lim M.toNat).length ≠ 0 := fun h => by have := (D.len_val (n := M.toNat)).1 h; omega
  obtain ⟨ld, hld⟩ : ∃ ld, (D.lim M.toNat).length = ld + 1 := ⟨(D.lim M.toNat).length - 1, by omega⟩
  have HLD : Hid ((D.lim M.toNat).length = ld + 1) := hld
  have hld0 : ((ld : Int) + 1 == 0) = false := by simp; omega
  have hMb : M < 65536 ^ 1024 := by
    calc M < 4294967296 ^ Y.length := bY
      _ ≤ 4294967296 ^ 512 := pow_mono lY
      _ = 65536 ^ 1024 := (pow16_32 512).symm
  have HMb : Hid (M < 65536 ^ 1024) := hMb
  have HI : Hid (∀ s, ((∃ G, 0 ≤ G ∧ G < M ∧ (∃ t, A * G = 1 + M * t) ∧ s = (lim G.toNat, (0 : Int))) ∨ (∃ D, 1 < D ∧ D ∣ A ∧ D ∣ M ∧ s = ([], 5))) → InvS X Y s) := by
    intro s hs; unfold InvS; rw [if_neg hlong, hNY, if_neg h0, hNX]; exact hs
  obtain ⟨R0, hR0⟩ : ∃ R, A % M = R := ⟨_, rfl⟩
  have HR0 : Hid (D.val (D.lim A.toNat) % M = R0) := by rw [D.val_limI nX]; exact hR0
  have HST : Hid (Rst A M M R0 1 0) := hR0 ▸ Rst.start A hM
  have ldl : ld + 1 ≤ 1024 := by omega
  clear hlong hNX hNY bX bY nX nY h0 hdp hld hMb hR0
  go_enter Try.func56, Try.ntmps56
  go_wp2_with (first
    | (go_at_call 67; refine (long_any _ _ _ X Y hX hY false (by assumption)).mono ?_; rintro e w' ⟨rfl, rfl⟩)
    | (go_at_call 71; replace hd := hd; refine (Digits_any _ X hX uX (by omega) A HX.out).mono ?_; rintro e w' ⟨p, rfl, hp, hB⟩; replace hd := below_sl hB hd; replace hBt := grow0 hBt hB)
    | (go_at_call 71; refine (Digits_any _ Y hY uY (by omega) M HY.out).mono ?_; rintro e w' ⟨d, rfl, hd, hB⟩; replace hX := below_sl hB hX; replace hBt := grow0 hBt hB; obtain ⟨aq, cq, hqv, _⟩ := hd.len; rw [HLD.out] at hqv; subst hqv)
    | (go_at_call 84; refine (divmod_any _ _ _ M hp hd (D.lim_u16 _) hM (by omega) (by omega) _ R0 rfl HR0.out).mono ?_; rintro e w3 ⟨s0, r0, rfl, _, hr0, hB⟩; replace hd := below_sl hB hd; replace hBt := grow0 hBt hB; clear hp hX hY))
  have hd3 := hd
  have hBt3 := hBt
  clear hd hBt
  go_loopg [8, 9, 10, 11] R0.toNat (fun gh rv sv xv yv wr => ∃ s r x y : Int, gh = r.toNat ∧ Hid (Rst A M s r x y) ∧ Sl .u64 wr rv (D.lim r.toNat) ∧ Sl .u64 wr sv (D.lim s.toNat) ∧ Sl .u64 wr xv (D.lim x.toNat) ∧ Sl .u64 wr yv (D.lim y.toNat) ∧ Sl .u64 wr (.slice aq (ld + 1) cq) (D.lim M.toNat) ∧ Below w.heap.size w wr)
  case atStart =>
    refine ⟨M, R0, 1, 0, rfl, HST.out, al1 hr0, al1 hd3, ?_, sl_none64 _, al1 hd3, al hBt3⟩
    rw [lim16_one]; exact Arr.sl64 (S := [1]) (arr_new rfl rfl)
  case round =>
    clear hr0 hd3 hBt3 HST HR0
    obtain ⟨s, r, x, y, hgk, HE, hr, hs, hx, hy, hd, hBt⟩ := hrel
    have b1 := HE.out.r0; have b2 := HE.out.rs; have b3 := HE.out.sM; have b4 := HE.out.x0; have b5 := HE.out.xM; have b6 := HE.out.y0; have b7 := HE.out.yM
    have ls : (D.lim s.toNat).length ≤ 1024 := D.lim_fits (by omega) (by have := HMb.out; omega)
    have lr : (D.lim r.toNat).length ≤ 1024 := D.lim_fits (by omega) (by have := HMb.out; omega)
    have lx : (D.lim x.toNat).length ≤ 1024 := D.lim_fits (by omega) (by have := HMb.out; omega)
    have ly : (D.lim y.toNat).length ≤ 1024 := D.lim_fits (by omega) (by have := HMb.out; omega)
    have lm : (D.lim M.toNat).length ≤ 1024 := D.lim_fits (by omega) (by have := HMb.out; omega)
    obtain ⟨ar, cr, hvr, _⟩ := hr.len
    by_cases hr0 : r = 0
    · subst hr0
      have hz : (D.lim (Int.toNat 0)).length = 0 := rfl
      rw [hz] at hvr
      clear hr hz
      subst hvr
      have u1 : D.U16s [1] := D.U16s.cons ⟨by decide, by decide⟩ D.U16s.nil
      by_cases hs1 : s = 1
      · subst hs1
        have HC : Hid (cmpI (D.val (D.lim (Int.toNat 1))) (D.val [1]) = 0) := by rw [lim16_one]; rfl
        obtain ⟨G, hG⟩ : ∃ G, y % M = G := ⟨_, rfl⟩
        have g0 : 0 ≤ G := by rw [← hG]; exact Int.emod_nonneg _ (by omega)
        have g1 : G < M := by rw [← hG]; exact Int.emod_lt_of_pos _ hM
        have lG : (D.lim G.toNat).length ≤ 1024 := D.lim_fits g0 (by have := HMb.out; omega)
        have HG : Hid (D.val (D.lim y.toNat) % M = G) := by rw [D.val_limI b6]; exact hG
        have HGV : Hid (D.val (D.lim G.toNat) = G) := D.val_limI g0
        have HR : Hid (0 ≤ G ∧ G < M ∧ ∃ t, A * G = 1 + M * t) := by rw [← hG]; exact HE.out.yes hM
        clear HE hG g0 g1 hgk
        go_wp2_with (first
          | (go_at_call 87; refine (order_any _ _ _ [1] (al1 hs) (Arr.sl64 (S := [1]) (arr_new rfl rfl)) (D.lim_u16 _) u1 (by omega) (by decide) 0 HC.out).mono ?_; rintro e w' ⟨rfl, rfl⟩)
          | (go_at_call 84; refine (divmod_any _ _ _ M (al1 hy) (al1 hd) (D.lim_u16 _) hM (by omega) (by omega) _ G rfl HG.out).mono ?_; rintro e w' ⟨q2, t2, rfl, _, ht2, hB⟩; replace hBt := grow0 (al hBt) hB)
          | (go_at_call 69; refine (Limbs_any _ _ ht2 (D.lim_u16 _) (by omega) G HGV.out).mono ?_; rintro e w' ⟨o, rfl, ho, hB⟩; replace hBt := grow0 hBt hB))
        go_ret2
        obtain ⟨h1, h2, h3⟩ := HR.out
        exact ⟨_, HI.out _ (.inl ⟨G, h1, h2, h3, rfl⟩), RTwo.mk' ho rfl, hBt⟩
      · have HC : Hid (cmpI (D.val (D.lim s.toNat)) (D.val [1]) = 1) := by
          rw [D.val_limI (by omega), show D.val [1] = 1 by decide]; unfold cmpI; rw [if_neg (by omega), if_pos (by omega)]; rfl
        have HR := HE.out.no hs1
        have HRh : Hid (∃ D, 1 < D ∧ D ∣ A ∧ D ∣ M) := HR
        clear HE HR hgk
        go_wp2_with (first
          | (go_at_call 87; refine (order_any _ _ _ [1] (al1 hs) (Arr.sl64 (S := [1]) (arr_new rfl rfl)) (D.lim_u16 _) u1 (by omega) (by decide) 1 HC.out).mono ?_; rintro e w' ⟨rfl, rfl⟩))
        go_ret2
        obtain ⟨D, h1, h2, h3⟩ := HRh.out
        exact ⟨_, HI.out _ (.inr ⟨D, h1, h2, h3, rfl⟩), RTwo.nil' rfl, al hBt⟩
    · have hrp : 0 < r := by omega
      have hne : (D.lim r.toNat).length ≠ 0 := fun h => by have := (D.len_val (n := r.toNat)).1 h; omega
      obtain ⟨lr', hlr⟩ : ∃ n, (D.lim r.toNat).length = n + 1 := ⟨(D.lim r.toNat).length - 1, by omega⟩
      rw [hlr] at hvr
      subst hvr
      have hst := HE.out.step hM hrp
      obtain ⟨q, hq⟩ : ∃ q, s / r = q := ⟨_, rfl⟩
      obtain ⟨e2, he⟩ : ∃ e, s % r = e := ⟨_, rfl⟩
      obtain ⟨p, hp⟩ : ∃ p, q * x = p := ⟨_, rfl⟩
      obtain ⟨t, ht⟩ : ∃ t, p % M = t := ⟨_, rfl⟩
      obtain ⟨f, hf⟩ : ∃ f, M - t = f := ⟨_, rfl⟩
      obtain ⟨g, hg⟩ : ∃ g, y + f = g := ⟨_, rfl⟩
      obtain ⟨z, hz⟩ : ∃ z, g % M = z := ⟨_, rfl⟩
      rw [hq, he, hp, ht, hf, hg, hz] at hst
      have q0 : 0 ≤ q := by rw [← hq]; exact Int.ediv_nonneg (by omega) (by omega)
      have q1 : q ≤ s := by rw [← hq]; exact Int.ediv_le_self _ (by omega)
      have p0 : 0 ≤ p := by rw [← hp]; exact Int.mul_nonneg q0 b4
      have t0 : 0 ≤ t := by rw [← ht]; exact Int.emod_nonneg _ (by omega)
      have t1 : t < M := by rw [← ht]; exact Int.emod_lt_of_pos _ hM
      have e0 : 0 ≤ e2 := by rw [← he]; exact Int.emod_nonneg _ (by omega)
      have e1 : e2 < r := by rw [← he]; exact Int.emod_lt_of_pos _ hrp
      have lq : (D.lim q.toNat).length ≤ 1024 := D.lim_fits q0 (by have := HMb.out; omega)
      have lp : (D.lim p.toNat).length ≤ 2048 := D.lim_fits p0 (by
        have h1 := HMb.out
        rw [show 2048 = 1024 + 1024 by rfl, Int.pow_add, ← hp]
        have h2 : q < 65536 ^ 1024 := by omega
        have h3 : x < 65536 ^ 1024 := by omega
        calc q * x ≤ q * 65536 ^ 1024 := Int.mul_le_mul_of_nonneg_left (by omega) q0
          _ < 65536 ^ 1024 * 65536 ^ 1024 := Int.mul_lt_mul_of_pos_right h2 (D.pow_pos16 _))
      have lt : (D.lim t.toNat).length ≤ 1024 := D.lim_fits t0 (by have := HMb.out; omega)
      have lf : (D.lim f.toNat).length ≤ 1024 := D.lim_fits (by omega) (by have := HMb.out; omega)
      have lg : (D.lim g.toNat).length ≤ 1025 := D.lim_fits (by omega) (by have := HMb.out; rw [D.pow_succ16]; omega)
      have HQ : Hid (D.val (D.lim s.toNat) / r = q) := by rw [D.val_limI (by omega)]; exact hq
      have HE2 : Hid (D.val (D.lim s.toNat) % r = e2) := by rw [D.val_limI (by omega)]; exact he
      have HP : Hid (D.val (D.lim q.toNat) * D.val (D.lim x.toNat) = p) := by rw [D.val_limI q0, D.val_limI b4]; exact hp
      have HT : Hid (D.val (D.lim p.toNat) % M = t) := by rw [D.val_limI p0]; exact ht
      have HF : Hid (D.val (D.lim M.toNat) - D.val (D.lim t.toNat) = f) := by rw [D.val_limI (by omega), D.val_limI t0]; exact hf
      have HG : Hid (D.val (D.lim y.toNat) + D.val (D.lim f.toNat) = g) := by rw [D.val_limI b6, D.val_limI (by omega)]; exact hg
      have HZ : Hid (D.val (D.lim g.toNat) % M = z) := by rw [D.val_limI (by omega)]; exact hz
      have f0 : 0 ≤ f := by omega
      have HST : Hid (Rst A M r e2 z x) := hst
      have HM : Hid (e2 < r ∧ 0 ≤ e2 ∧ gk = r.toNat) := ⟨e1, e0, hgk⟩
      clear HE hgk hq he hp ht hf hg hz hst q0 q1 p0 t0 t1 e0 e1 hne hlr b1 b2 b3 b4 b5 b6 b7 hr0
      go_wp2_with (first
        | (go_at_call 84; replace hp := hp; replace ht := ht; replace hk := hk; refine (divmod_any _ _ _ M hk hd (D.lim_u16 _) hM (by omega) (by omega) _ z rfl HZ.out).mono ?_; rintro e w' ⟨q4, z4, rfl, _, hz, hB⟩; replace hr := below_sl hB hr; replace hx := below_sl hB hx; replace hd := below_sl hB hd; replace hrest := below_sl hB hrest; replace hBt := grow0 hBt hB)
        | (go_at_call 86; refine (add_any _ _ _ _ hy hf (D.lim_u16 _) (D.lim_u16 _) (by omega) (by omega) g HG.out).mono ?_; rintro e w' ⟨k4, rfl, hk, hB⟩; replace hr := below_sl hB hr; replace hx := below_sl hB hx; replace hd := below_sl hB hd; replace hrest := below_sl hB hrest; replace hBt := grow0 hBt hB)
        | (go_at_call 70; refine (sub_any _ _ _ _ hd ht (D.lim_u16 _) (D.lim_u16 _) (by omega) (by omega) f HF.out f0).mono ?_; rintro e w' ⟨f4, rfl, hf, hB⟩; replace hr := below_sl hB hr; replace hx := below_sl hB hx; replace hy := below_sl hB hy; replace hd := below_sl hB hd; replace hrest := below_sl hB hrest; replace hBt := grow0 hBt hB)
        | (go_at_call 84; replace hp := hp; refine (divmod_any _ _ _ M hp hd (D.lim_u16 _) hM (by omega) (by omega) _ t rfl HT.out).mono ?_; rintro e w' ⟨q3, t3, rfl, _, ht, hB⟩; replace hr := below_sl hB hr; replace hx := below_sl hB hx; replace hy := below_sl hB hy; replace hd := below_sl hB hd; replace hrest := below_sl hB hrest; replace hBt := grow0 hBt hB)
        | (go_at_call 85; refine (mul_any _ _ _ _ hq hx (D.lim_u16 _) (D.lim_u16 _) (by omega) (by omega) p HP.out).mono ?_; rintro e w' ⟨p3, rfl, hp, hB⟩; replace hr := below_sl hB hr; replace hx := below_sl hB hx; replace hy := below_sl hB hy; replace hd := below_sl hB hd; replace hrest := below_sl hB hrest; replace hBt := grow0 hBt hB)
        | (go_at_call 84; refine (divmod_any _ _ _ r hs hr (D.lim_u16 _) hrp (by omega) (by omega) q e2 HQ.out HE2.out).mono ?_; rintro e w' ⟨q5, r5, rfl, hq, hrest, hB⟩; replace hr := below_sl hB hr; replace hx := below_sl hB hx; replace hy := below_sl hB hy; replace hd := below_sl hB hd; replace hBt := grow0 hBt hB))
      go_roundg e2.toNat
      case measure => have h := HM.out; omega
      case rel => exact ⟨r, e2, z, x, rfl, HST.out, hrest, hr, hz, hx, hd, hBt⟩
end Go.Proofs.Ytkdclocjijmgpaa.Nt
/-
  Curves: the reference's flat. (wip/mkh27.py)
-/
namespace Go.Proofs.Ytkdclocjijmgpaa
open Go.RowKit
set_option maxRecDepth 20000
theorem RInverseN {w : World} (a b : Value) (x p : Nat) (ha : Nb w a x) (hb : Nb w b p) (hx : (lim x).length ≤ 512) (hp : (lim p).length ≤ 512) (h0 : 0 < p) (hg : Nat.gcd x p = 1) :
    Calls Try.prog 56 #[a, b] w fun e w' => ∃ r g, e = .returned (.tuple #[r, .int .i64 0]) ∧ Nb w' r g ∧ g < p ∧ x * g % p = 1 % p ∧ Below w.heap.size w w' := by
  refine (Nt.RInverse_any (lim x) (lim p) a b w ha hb (lim_u32 _) (lim_u32 _)).mono ?_
  rintro e w' ⟨s, hs, ⟨r, rfl, ho⟩, hB⟩
  unfold Nt.InvS at hs
  rw [if_neg (by omega), val_lim, val_lim, if_neg (by omega)] at hs
  rcases hs with ⟨G, g0, g1, ⟨t, ht⟩, rfl⟩ | ⟨D, d1, dx, dp, _⟩
  · refine ⟨r, G.toNat, rfl, ho, by omega, ?_, hB⟩
    have h1 : ((x * G.toNat : Nat) : Int) = 1 + (p : Int) * t := by rw [Int.natCast_mul, Int.toNat_of_nonneg g0]; exact ht
    have h2 : (((x * G.toNat) % p : Nat) : Int) = ((1 % p : Nat) : Int) := by
      rw [Int.natCast_emod, h1, Int.natCast_emod, Int.add_mul_emod_self_left]; rfl
    exact Int.ofNat.inj h2
  · exfalso
    obtain ⟨d, rfl⟩ : ∃ d : Nat, D = d := ⟨D.toNat, by omega⟩
    have e1 : d ∣ x := Int.natCast_dvd_natCast.1 dx
    have e2 : d ∣ p := Int.natCast_dvd_natCast.1 dp
    have e3 := Nat.dvd_gcd e1 e2
    rw [hg] at e3
    have := Nat.le_of_dvd (by decide) e3
    omega
/-- The point of the reference's triple. -/
def qpt (p : Nat) (t : Nat × Nat × Nat) (X Y : Nat) : Prop :=
  (t.2.2 = 0 ∧ X = 0 ∧ Y = 0) ∨ (t.2.2 ≠ 0 ∧ ∃ g, g < p ∧ t.2.2 * g % p = 1 % p ∧ X = fml p t.1 g ∧ Y = fml p t.2.1 g)
abbrev SV := Option Addr × Nat × Nat
def sv (b : SV) : Value := .slice b.1 b.2.1 b.2.2
theorem det_callu {P : Program} {ops : Array Oper} {Q : Exit → Act → World → Prop} {β : Type} {V : β → Nat → Value} {S : β → Array Bool → World → Prop} {i : Nat} {b : β} {L : Array Bool} {a : Act} {W : World} {o : Oper} (ho : ops[i]? = some o) (hg : o.guard = none) {f : FuncId} {vs : Array Value} (hr : (execOp a.eval o).run P W = .ok (.enter f vs) W) {R : Value → World → Prop} (hc : Calls P f vs W fun e w' => ∃ v, e = .returned v ∧ R v w') (hS : ∀ v w', R v w' → ∃ b', (∀ k, k ≠ i → Up L k → V b' k = V b k) ∧ V b' i = v ∧ S b' (L.setIfInBounds i true) w') : DetOp P ops Q V S i b L a W :=
  det_op ho hg (by
    unfold Oper.wp
    rw [hr]
    refine hc.mono ?_
    rintro e w' ⟨v, rfl, h⟩
    obtain ⟨b', h1, h2, h3⟩ := hS v w' h
    exact ⟨b', h1, by rw [h2]; exact put_dst ho, h3⟩)
theorem SB.re {w0 : World} {T : TypeId} {bs : Nat} {old new new' : List Value} {iS n : Nat} {b : Unit} {L : Array Bool} {W : World} (h : SB w0 T bs old new iS n b L W) (no : ¬ Up L iS) : SB w0 T bs old new' iS n b L W := ⟨h.1, h.2.1, h.2.2.1, fun u => absurd u no⟩
/-- A point's block filled last with two numbers that are made on the way. -/
def SF (w0 : World) (bs X Y : Nat) (b : SV × SV) (L : Array Bool) (W : World) : Prop :=
  SB w0 24 bs [.slice none 0 0, .slice none 0 0] [sv b.1, sv b.2] 15 16 () L W ∧ (Up L 6 → Nb W (sv b.1) X) ∧ (Up L 13 → Nb W (sv b.2) Y) ∧ (Up L 14 → Up L 6 ∧ Up L 13)
theorem SF.keep {w0 : World} {bs X Y : Nat} {b : SV × SV} {L : Array Bool} {W W' : World} (h : SF w0 bs X Y b L W) {i : Nat} (hi : i < 16) (hno : ¬ Up L i) (hS : i ≠ 15) (h1 : i ≠ 6) (h2 : i ≠ 13) (h3 : i ≠ 14) (hb : Below W.heap.size W W') : SF w0 bs X Y b (L.setIfInBounds i true) W' :=
  ⟨h.1.keep hi hno hS hb, fun u => (h.2.1 ((up_st h1).1 u)).below hb, fun u => (h.2.2.1 ((up_st h2).1 u)).below hb, fun u => ⟨(up_st h1).2 (h.2.2.2 ((up_st h3).1 u)).1, (up_st h2).2 (h.2.2.2 ((up_st h3).1 u)).2⟩⟩
theorem SF.put1 {w0 : World} {bs X Y : Nat} {b : SV × SV} {L : Array Bool} {W W' : World} (h : SF w0 bs X Y b L W) (hno : ¬ Up L 6) (hb : Below W.heap.size W W') {v : SV} (hv : Nb W' (sv v) X) : SF w0 bs X Y (v, b.2) (L.setIfInBounds 6 true) W' :=
  ⟨(h.1.keep (i := 6) (by decide) hno (by decide) hb).re (fun u => hno ((h.1.2.2.2 ((up_st (by decide)).1 u)).2 6 (by decide))), fun _ => hv, fun u => (h.2.2.1 ((up_st (by decide)).1 u)).below hb, fun u => absurd (h.2.2.2 ((up_st (by decide)).1 u)).1 hno⟩
theorem SF.put2 {w0 : World} {bs X Y : Nat} {b : SV × SV} {L : Array Bool} {W W' : World} (h : SF w0 bs X Y b L W) (hno : ¬ Up L 13) (hb : Below W.heap.size W W') {v : SV} (hv : Nb W' (sv v) Y) : SF w0 bs X Y (b.1, v) (L.setIfInBounds 13 true) W' :=
  ⟨(h.1.keep (i := 13) (by decide) hno (by decide) hb).re (fun u => hno ((h.1.2.2.2 ((up_st (by decide)).1 u)).2 13 (by decide))), fun u => (h.2.1 ((up_st (by decide)).1 u)).below hb, fun _ => hv, fun u => absurd (h.2.2.2 ((up_st (by decide)).1 u)).2 hno⟩
theorem SF.build {w0 : World} {bs X Y : Nat} {b : SV × SV} {L : Array Bool} {W : World} (h : SF w0 bs X Y b L W) (hno : ¬ Up L 14) (u1 : Up L 6) (u2 : Up L 13) : SF w0 bs X Y b (L.setIfInBounds 14 true) W :=
  ⟨h.1.keep (i := 14) (by decide) hno (by decide) (Below.refl _ _), fun u => h.2.1 ((up_st (by decide)).1 u), fun u => h.2.2.1 ((up_st (by decide)).1 u), fun _ => ⟨(up_st (by decide)).2 u1, (up_st (by decide)).2 u2⟩⟩
theorem sn_nn : ∀ c ∈ ([.slice none 0 0, .slice none 0 0] : List Value), ∀ n, c ≠ .int .u32 n := by
  intro c hc n
  simp only [List.mem_cons, List.not_mem_nil, or_false] at hc
  rcases hc with rfl | rfl <;> exact fun h => nomatch h
theorem SF.store {w0 : World} {bs X Y : Nat} {b : SV × SV} {L : Array Bool} {W : World} (h : SF w0 bs X Y b L W) (hno : ¬ Up L 15) (hl : 15 < L.size) (hall : ∀ k, k < 16 → k ≠ 15 → Up L k) : SF w0 bs X Y b (L.setIfInBounds 15 true) (W.setCells bs 0 [sv b.1, sv b.2]) := by
  have hU : Upd W (W.setCells bs 0 [sv b.1, sv b.2]) bs := Upd.setCells _ 0 W
  have hB := (h.1.2.2.1 hno).2
  exact ⟨h.1.store hno hl hall rfl, fun u => (h.2.1 ((up_st (by decide)).1 u)).upd hB sn_nn hU, fun u => (h.2.2.1 ((up_st (by decide)).1 u)).upd hB sn_nn hU, fun u => ⟨(up_st (by decide)).2 (h.2.2.2 ((up_st (by decide)).1 u)).1, (up_st (by decide)).2 (h.2.2.2 ((up_st (by decide)).1 u)).2⟩⟩
theorem sv_one (b : SV × SV) : (#[sv b.1, sv b.2] : Array Value).all (·.oneCell') = true := by simp [sv, Value.oneCell']
theorem run_move {a : Act} {W : World} {o : Oper} {t : Tmp} (hop : o.op = .move (.tmp t)) {v : Value} (hx : a.eval (.tmp t) = v) : (execOp a.eval o).run Try.prog W = .ok (.value v) W := by
  subst hx
  unfold execOp
  simp only [hop]
  simp [go_sem]
theorem run_buildP {a : Act} {W : World} {o : Oper} {t1 t2 : Tmp} (hop : o.op = .build 24 #[(0, .tmp t1), (1, .tmp t2)]) {b : SV × SV} (e1 : a.eval (.tmp t1) = sv b.1) (e2 : a.eval (.tmp t2) = sv b.2) : (execOp a.eval o).run Try.prog W = .ok (.value (.agg #[sv b.1, sv b.2])) W := by
  unfold execOp
  simp only [hop]
  have e4 : (#[(0, Operand.tmp t1), (1, Operand.tmp t2)] : Array (Nat × Operand)).map (fun q => (q.1, a.eval q.2)) = #[(0, sv b.1), (1, sv b.2)] := by simp [e1, e2]
  rw [e4]
  have e5 : ∀ (W : World) (u v : SV), Sem.run Try.prog (do pure (Next.value (← Instr.build 24 #[(0, sv u), (1, sv v)]))) W = .ok (.value (.agg #[sv u, sv v])) W := fun W u v => by kernel_rfl
  exact e5 W b.1 b.2
set_option maxHeartbeats 4000000 in
theorem flat_any {w : World} {C : Cv} {p : Nat} (c : Int) (hc : crv c = some C) (hCp : C.p = p) (hp : Fp p) {x y z : Nat} (hx : x < p) (hy : y < p) (hz : z < p) (hg : z ≠ 0 → Nat.gcd z p = 1) :
    Calls Try.prog 30 #[fV p, .agg (tC x y z).toArray, .int .i64 c] w fun e w' => ∃ (b : SV × SV) (X Y : Nat), e = .returned (.agg #[sv b.1, sv b.2]) ∧ Nb w' (sv b.1) X ∧ Nb w' (sv b.2) Y ∧ qpt p (x, y, z) X Y ∧ Below w.heap.size w w' := by
  obtain ⟨F, hF⟩ : ∃ F, fdC (lim p).length (dg p) = F := ⟨_, rfl⟩
  obtain ⟨T, hT⟩ : ∃ T, tC x y z = T := ⟨_, rfl⟩
  unfold fV
  rw [hF, hT]
  have HA : Hid (Fp p ∧ x < p ∧ y < p ∧ z < p ∧ fdC (lim p).length (dg p) = F ∧ tC x y z = T ∧ (Try.prog.info? 66).map (·.size) = some F.length) := ⟨hp, hx, hy, hz, hF, hT, by
    rw [← hF, Try.sizeFd]
    have := (dg_ok hp.2).1.2
    simp [fdC, this]⟩
  have HP0 : Hid (0 < p) := by have := hp.1; show _ < _; omega
  have HPr : Hid (∀ W : World, Calls Try.prog 37 #[.int .i64 c] W fun e w' => ∃ r, e = .returned r ∧ Nb w' r p ∧ Below W.heap.size W w') := fun W => (RPrime_any c).mono fun e w' ⟨r, h1, h2, h3⟩ => ⟨r, h1, by rw [hc] at h2; exact hCp ▸ h2, h3⟩
  have HG : Hid (z ≠ 0 → Nat.gcd z p = 1) := hg
  obtain ⟨bz, hbz⟩ : ∃ q, decide (z = 0) = q := ⟨_, rfl⟩
  have ez := eqZ hp hz bz hbz
  have HQ : Hid (decide (z = 0) = bz) := hbz
  have gz : ∀ W xo yo, Sem.run Try.prog (eqGuard BinOp.eql 64 xo yo (.agg (dgC (dg z)).toArray) (.agg #[.int .u64 0, .int .u64 0, .int .u64 0, .int .u64 0, .int .u64 0, .int .u64 0, .int .u64 0, .int .u64 0, .int .u64 0, .int .u64 0, .int .u64 0, .int .u64 0, .int .u64 0])) W = .ok () W := fun W xo yo => by kernel_rfl
  clear hp hx hy hz hF hT hbz hg hc hCp
  go_enter Try.func30, Try.ntmps30
  go_upto_region 1 with (first | (refine wpList_boxR rfl 66 (.tmp 0) rfl F.toArray rfl ?_) | (refine wpList_boxR rfl 70 (.tmp 1) rfl T.toArray rfl ?_))
  refine wp_gen (fun W => Below w.heap.size w W ∧ Blk 66 W w.heap.size F ∧ Blk 70 W (w.heap.size + 1) T ∧ Blk 24 W (w.heap.size + 1 + 1) [.slice none 0 0, .slice none 0 0]) ?_ ?_
  · have x2 := Blk.new 70 (w.alloc (.cells F.toArray 66)) T
    have x3 := Blk.new 24 ((w.alloc (.cells F.toArray 66)).alloc (.cells T.toArray 70)) [.slice none 0 0, .slice none 0 0]
    rw [World.size_alloc] at x2
    rw [World.size_alloc, World.size_alloc] at x3
    exact ⟨below_via (below_via (al1 _) (al1 _) (Nat.le_refl _)) (al1 _) (Nat.le_refl _), below_blk (al1 _) (by simp only [World.size_alloc]; omega) (below_blk (al1 _) (by simp only [World.size_alloc]; omega) (Blk.new _ _ _)), below_blk (al1 _) (by simp only [World.size_alloc]; omega) x2, x3⟩
  rintro W1 hW
  have M1 : Hid (Below w.heap.size w W1 ∧ Blk 66 W1 w.heap.size F ∧ Blk 70 W1 (w.heap.size + 1) (tC x y z) ∧ Blk 24 W1 (w.heap.size + 1 + 1) [.slice none 0 0, .slice none 0 0]) := ⟨hW.1, hW.2.1, HA.out.2.2.2.2.2.1 ▸ hW.2.2.1, hW.2.2.2⟩
  clear hW
  have Hr : Hid (W1.rangeAt (w.heap.size + 1) 26 (dgC (dg z))) := (tC_at HA.out.1 HA.out.2.1 HA.out.2.2.1 HA.out.2.2.2.1 M1.out.2.2.1).2.2
  cases bz with
  | true =>
    have hz0 : Hid (z = 0) := by show z = 0; exact of_decide_eq_true HQ.out
    have Hth : Hid (W1.there (w.heap.size + 1 + 1) 0 2) := M1.out.2.2.2.there 0 _ (by decide)
    go_wp2_with (first | (refine wpList_load_mid rfl _ _ rfl (w.heap.size + 1) 26 rfl (dgC (dg z)) _ Hr.out Try.underlying64 rfl (szD HA.out.1 HA.out.2.2.2.1) ?_) | (refine wpList_store_mid rfl _ _ _ rfl (w.heap.size + 1 + 1) 0 #[.slice none 0 0, .slice none 0 0] rfl rfl Hth.out Try.sizePt (sv_one ((none, 0, 0), (none, 0, 0))) ?_))
    have hU : Upd W1 (W1.setCells (w.heap.size + 1 + 1) 0 [.slice none 0 0, .slice none 0 0]) (w.heap.size + 1 + 1) := Upd.setCells _ 0 W1
    have hF := M1.out.2.2.2.fill [.slice none 0 0, .slice none 0 0] rfl
    refine bodyPost_ret (v := .agg #[.slice none 0 0, .slice none 0 0]) (results_blk (b := w.heap.size + 1 + 1) rfl rfl hF Try.underlying24 rfl Try.sizePt) rfl ⟨((none, 0, 0), (none, 0, 0)), 0, 0, rfl, ?_, ?_, .inl ⟨hz0.out, rfl, rfl⟩, hU.below M1.out.1 M1.out.1.size (by omega)⟩
    · have h0 : lim 0 = [] := List.eq_nil_of_length_eq_zero (lim0.2 rfl)
      unfold Nb; rw [h0]; exact ⟨none, 0, rfl, Nat.le_refl _, .inl rfl⟩
    · have h0 : lim 0 = [] := List.eq_nil_of_length_eq_zero (lim0.2 rfl)
      unfold Nb; rw [h0]; exact ⟨none, 0, rfl, Nat.le_refl _, .inl rfl⟩
  | false =>
  have hz0 : Hid (z ≠ 0) := by show ¬ z = 0; exact of_decide_eq_false HQ.out
  go_wp2_with (refine wpList_load_mid rfl _ _ rfl (w.heap.size + 1) 26 rfl (dgC (dg z)) _ Hr.out Try.underlying64 rfl (szD HA.out.1 HA.out.2.2.2.1) ?_)
  clear ez gz HQ Hr
  refine (limbs_ok z (HA.out.1.lt HA.out.2.2.2.1)).mono ?_
  rintro e w2 ⟨a2, n2, c2, rfl, hn2, hb2⟩
  have M2 : Hid (Below W1.heap.size W1 w2 ∧ Nb w2 (.slice a2 n2 c2) z) := ⟨hb2, hn2⟩
  clear hb2 hn2
  go_wp2_with fail
  refine (HPr.out _).mono ?_
  rintro e w3 ⟨r3, rfl, hn3, hb3⟩
  obtain ⟨a3, c3, hf3⟩ := hn3.form
  obtain ⟨n3, hm3⟩ : ∃ n, (lim p).length = n := ⟨_, rfl⟩
  rw [hm3] at hf3
  subst hf3
  have M3 : Hid (Below W1.heap.size W1 w3 ∧ Nb w3 (.slice a2 n2 c2) z ∧ Nb w3 (.slice a3 n3 c3) p) := ⟨below_via M2.out.1 hb3 (Nat.le_refl _), M2.out.2.below hb3, hn3⟩
  clear hb3 hn3 M2 hm3
  go_wp2_with fail
  refine (RInverseN _ _ z p M3.out.2.1 M3.out.2.2 (by have := lim12 (HA.out.1.lt HA.out.2.2.2.1); omega) (by have := lim12 HA.out.1.2; omega) HP0.out (HG.out hz0.out)).mono ?_
  rintro e w4 ⟨ri, g, rfl, hn4, hg4, hi4, hb4⟩
  have hb5 := below_via M3.out.1 hb4 (Nat.le_refl _)
  have M4 : Hid (Below w.heap.size w w4 ∧ Blk 66 w4 w.heap.size F ∧ Blk 70 w4 (w.heap.size + 1) (tC x y z) ∧ Blk 24 w4 (w.heap.size + 1 + 1) [.slice none 0 0, .slice none 0 0] ∧ Nb w4 ri g ∧ g < p ∧ z * g % p = 1 % p) := ⟨below_via M1.out.1 hb5 (Nat.le_refl _), below_blk hb5 M1.out.2.1.lt M1.out.2.1, below_blk hb5 M1.out.2.2.1.lt M1.out.2.2.1, below_blk hb5 M1.out.2.2.2.lt M1.out.2.2.2, hn4, hg4, hi4⟩
  clear hn4 hg4 hi4 hb4 hb5 M3 M1 HPr HG
  go_upto_region 4 with (fail)
  refine wp_frame (fun A0 => A0.tmps.size = 38 ∧ A0.defers = [] ∧ A0.eval (.tmp 3) = .pointer (some ⟨w.heap.size, 0, none⟩) ∧ A0.eval (.tmp 4) = .pointer (some ⟨w.heap.size + 1, 0, none⟩) ∧ A0.eval (.tmp 6) = .pointer (some ⟨w.heap.size + 1 + 1, 0, none⟩) ∧ A0.eval (.tmp 7) = ri) ⟨by kernel_rfl, rfl, rfl, rfl, rfl, rfl⟩ ?_
  rintro A0 hA0
  have AF0 : Hid (A0.tmps.size = 38 ∧ A0.defers = [] ∧ A0.eval (.tmp 3) = .pointer (some ⟨w.heap.size, 0, none⟩) ∧ A0.eval (.tmp 4) = .pointer (some ⟨w.heap.size + 1, 0, none⟩) ∧ A0.eval (.tmp 6) = .pointer (some ⟨w.heap.size + 1 + 1, 0, none⟩) ∧ A0.eval (.tmp 7) = ri) := hA0
  clear hA0
  have LX : Hid (fml p x g < p ∧ fml p y g < p) := ⟨fml_lt HP0.out, fml_lt HP0.out⟩
  refine wp_region_o (β := SV × SV) (fun (b : SV × SV) k => if k = 6 then sv b.1 else if k = 13 then sv b.2 else if k = 14 then .agg #[sv b.1, sv b.2] else ([.agg F.toArray, .pointer (some ⟨w.heap.size + 1, 0, none⟩), DV x, ri, DV g, DV (fml p x g), undef, .agg F.toArray, .pointer (some ⟨w.heap.size + 1, 13, none⟩), DV y, ri, DV g, DV (fml p y g)] : List Value).getD k undef) (SF w4 (w.heap.size + 1 + 1) (fml p x g) (fml p y g)) ((none, 0, 0), (none, 0, 0)) true (m := 38) AF0.out.1 rfl (by decide +kernel) (by decide +kernel) ⟨⟨updDrew _ _, M4.out.2.2.2.1.lt, fun _ => ⟨Below.drew (Below.refl _ _), below_blk (Below.drew (Below.refl _ _)) M4.out.2.2.2.1.lt M4.out.2.2.2.1⟩, fun u => absurd u not_up_new⟩, fun u => absurd u not_up_new, fun u => absurd u not_up_new, fun u => absurd u not_up_new⟩ (fun i b L W a hi hno hlt hdep hv h0 hS => ?_) (fun b L W a hup hS hsz hdf hv h0 => ?_)
  · replace hi : i < 16 := hi
    have hB2 : i ≠ 15 → Blk 66 W w.heap.size F ∧ Blk 70 W (w.heap.size + 1) (tC x y z) ∧ Nb W ri g := fun hne => by
      have := (hS.1.not hi hno).1
      exact ⟨below_blk this M4.out.2.1.lt M4.out.2.1, below_blk this M4.out.2.2.1.lt M4.out.2.2.1, M4.out.2.2.2.2.1.below this⟩
    have rf := Below.refl W.heap.size W
    obtain rfl | rfl | rfl | rfl | rfl | rfl | rfl | rfl | rfl | rfl | rfl | rfl | rfl | rfl | rfl | rfl : i = 0 ∨ i = 1 ∨ i = 2 ∨ i = 3 ∨ i = 4 ∨ i = 5 ∨ i = 6 ∨ i = 7 ∨ i = 8 ∨ i = 9 ∨ i = 10 ∨ i = 11 ∨ i = 12 ∨ i = 13 ∨ i = 14 ∨ i = 15 := by omega
    · exact det_load rfl rfl rfl ((h0 3 (by decide +kernel)).trans AF0.out.2.2.1) (hB2 (by decide)).1.whole Try.underlying66 rfl HA.out.2.2.2.2.2.2 rfl (hS.keep (by decide) hno (by decide) (by decide) (by decide) (by decide) rf)
    · exact det_val rfl rfl (run_field (k := 0) rfl ((h0 4 (by decide +kernel)).trans AF0.out.2.2.2.1) (by decide)) (hS.keep (by decide) hno (by decide) (by decide) (by decide) (by decide) rf)
    · exact det_load rfl rfl rfl (hv 1 24 (by decide) (hdep 1 (by decide +kernel)) rfl) (tC_at HA.out.1 HA.out.2.1 HA.out.2.2.1 HA.out.2.2.2.1 (hB2 (by decide)).2.1).1 Try.underlying64 rfl (szD HA.out.1 HA.out.2.1) rfl (hS.keep (by decide) hno (by decide) (by decide) (by decide) (by decide) rf)
    · exact det_val rfl rfl (run_move rfl ((h0 7 (by decide +kernel)).trans AF0.out.2.2.2.2.2)) (hS.keep (by decide) hno (by decide) (by decide) (by decide) (by decide) rf)
    · exact det_call rfl rfl (run_call1 rfl (hv 3 26 (by decide) (hdep 3 (by decide +kernel)) rfl) eg_ofd) (ofN _ g (hB2 (by decide)).2.2 (HA.out.1.lt M4.out.2.2.2.2.2.1)) (fun w1 hb => (hS.keep (by decide) hno (by decide) (by decide) (by decide) (by decide) hb))
    · exact det_call rfl rfl (run_call3 rfl (hv 0 23 (by decide) (hdep 0 (by decide +kernel)) rfl) (hv 2 25 (by decide) (hdep 2 (by decide +kernel)) rfl) (hv 4 27 (by decide) (hdep 4 (by decide +kernel)) rfl) eg_mul) (mulF HA.out.2.2.2.2.1 HA.out.1 HA.out.2.1 M4.out.2.2.2.2.2.1) (fun w1 hb => (hS.keep (by decide) hno (by decide) (by decide) (by decide) (by decide) hb))
    · refine det_callu (R := fun v w' => ∃ s : SV, v = sv s ∧ Nb w' (sv s) (fml p x g) ∧ Below W.heap.size W w') rfl rfl (run_call1 rfl (hv 5 28 (by decide) (hdep 5 (by decide +kernel)) rfl) eg_limbs) ((limbs_ok _ (HA.out.1.lt LX.out.1)).mono fun e w' ⟨a, n, c, h1, h2, h3⟩ => ⟨_, h1, (a, n, c), rfl, h2, h3⟩) ?_
      rintro _ w' ⟨v, rfl, h2, h3⟩
      exact ⟨(v, b.2), fun k hk hu => by
          by_cases h14 : k = 14
          · subst h14; exact absurd (hS.2.2.2 hu).1 hno
          · simp only [if_neg hk, if_neg h14], rfl, hS.put1 hno h3 h2⟩
    · exact det_load rfl rfl rfl ((h0 3 (by decide +kernel)).trans AF0.out.2.2.1) (hB2 (by decide)).1.whole Try.underlying66 rfl HA.out.2.2.2.2.2.2 rfl (hS.keep (by decide) hno (by decide) (by decide) (by decide) (by decide) rf)
    · exact det_val rfl rfl (run_field (k := 1) rfl ((h0 4 (by decide +kernel)).trans AF0.out.2.2.2.1) (by decide)) (hS.keep (by decide) hno (by decide) (by decide) (by decide) (by decide) rf)
    · exact det_load rfl rfl rfl (hv 8 31 (by decide) (hdep 8 (by decide +kernel)) rfl) (tC_at HA.out.1 HA.out.2.1 HA.out.2.2.1 HA.out.2.2.2.1 (hB2 (by decide)).2.1).2.1 Try.underlying64 rfl (szD HA.out.1 HA.out.2.2.1) rfl (hS.keep (by decide) hno (by decide) (by decide) (by decide) (by decide) rf)
    · exact det_val rfl rfl (run_move rfl ((h0 7 (by decide +kernel)).trans AF0.out.2.2.2.2.2)) (hS.keep (by decide) hno (by decide) (by decide) (by decide) (by decide) rf)
    · exact det_call rfl rfl (run_call1 rfl (hv 10 33 (by decide) (hdep 10 (by decide +kernel)) rfl) eg_ofd) (ofN _ g (hB2 (by decide)).2.2 (HA.out.1.lt M4.out.2.2.2.2.2.1)) (fun w1 hb => (hS.keep (by decide) hno (by decide) (by decide) (by decide) (by decide) hb))
    · exact det_call rfl rfl (run_call3 rfl (hv 7 30 (by decide) (hdep 7 (by decide +kernel)) rfl) (hv 9 32 (by decide) (hdep 9 (by decide +kernel)) rfl) (hv 11 34 (by decide) (hdep 11 (by decide +kernel)) rfl) eg_mul) (mulF HA.out.2.2.2.2.1 HA.out.1 HA.out.2.2.1 M4.out.2.2.2.2.2.1) (fun w1 hb => (hS.keep (by decide) hno (by decide) (by decide) (by decide) (by decide) hb))
    · refine det_callu (R := fun v w' => ∃ s : SV, v = sv s ∧ Nb w' (sv s) (fml p y g) ∧ Below W.heap.size W w') rfl rfl (run_call1 rfl (hv 12 35 (by decide) (hdep 12 (by decide +kernel)) rfl) eg_limbs) ((limbs_ok _ (HA.out.1.lt LX.out.2)).mono fun e w' ⟨a, n, c, h1, h2, h3⟩ => ⟨_, h1, (a, n, c), rfl, h2, h3⟩) ?_
      rintro _ w' ⟨v, rfl, h2, h3⟩
      exact ⟨(b.1, v), fun k hk hu => by
          by_cases h14 : k = 14
          · subst h14; exact absurd (hS.2.2.2 hu).2 hno
          · simp only [if_neg hk, if_neg h14], rfl, hS.put2 hno h3 h2⟩
    · exact det_val rfl rfl (run_buildP rfl (hv 6 29 (by decide) (hdep 6 (by decide +kernel)) rfl) (hv 13 36 (by decide) (hdep 13 (by decide +kernel)) rfl)) (hS.build hno (hdep 6 (by decide +kernel)) (hdep 13 (by decide +kernel)))
    · exact det_store (cells := #[sv b.1, sv b.2]) rfl rfl rfl rfl ((h0 6 (by decide +kernel)).trans AF0.out.2.2.2.2.1) (hv 14 37 (by decide) (hdep 14 (by decide +kernel)) rfl) ((hS.1.2.2.1 hno).2.there 0 2 (by decide)) Try.sizePt (sv_one b) (hS.store hno (hlt 15 (by decide)) (fun k hk hne => hdep k (allDep hk hne (by decide +kernel))))
  have hB := (hS.1.2.2.2 (hup 15 (by decide))).1
  have hU := hS.1.1
  have n1 := hS.2.1 (hup 6 (by decide))
  have n2 := hS.2.2.1 (hup 13 (by decide))
  have hE := (h0 6 (by decide +kernel)).trans AF0.out.2.2.2.2.1
  have hD := hdf.trans AF0.out.2.1
  clear hup hS hsz hdf hv h0
  go_wp2
  exact bodyPost_ret (v := .agg #[sv b.1, sv b.2]) (results_blk (b := w.heap.size + 1 + 1) rfl hE hB Try.underlying24 rfl Try.sizePt) hD ⟨b, _, _, rfl, n1, n2, .inr ⟨hz0.out, g, M4.out.2.2.2.2.2.1, M4.out.2.2.2.2.2.2, rfl, rfl⟩, hU.below M4.out.1 M4.out.1.size (by omega)⟩
end Go.Proofs.Ytkdclocjijmgpaa
