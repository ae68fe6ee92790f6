/-
  The walks of the reference's long, Trim, Cmp, Add, Sub, Mul: they answer what the program's functions answer.
-/
import Derived.Test.YthkheocggcmooaaW36
import Derived.Test.YthkheocggcmooaaW8
namespace Go.Proofs.Ythkheocggcmooaa
open Go.RowKit

/-- A number and an error, as two results, in whatever memory. -/
def RTwo (w : World) (e : Ending) (s : List Int × Int) : Prop := ∃ r, e = .returned (.tuple #[r, .int .i64 s.2]) ∧ Sl .u32 w r s.1
theorem RTwo.nil' {w : World} {n : Int} {s : List Int × Int} (hs : s = ([], n)) : RTwo w (.returned (.tuple #[.slice none 0 0, .int .i64 n])) s := by
  subst hs; exact ⟨_, rfl, ⟨none, 0, rfl, Nat.le_refl _, .inl rfl⟩⟩
theorem RTwo.mk' {w : World} {r : Value} {n : Int} {L : List Int} {s : List Int × Int} (h : Sl .u32 w r L) (hs : s = (L, n)) : RTwo w (.returned (.tuple #[r, .int .i64 n])) s := by
  subst hs; exact ⟨r, rfl, h⟩
theorem pow16_32 (n : Nat) : (65536 : Int) ^ (2 * n) = 4294967296 ^ n := by rw [Int.pow_mul]; rfl

theorem long_any {w : World} (m : Nat) (v u : Value) (X Y : List Int) (hX : Sl .u32 w v X) (hY : Sl .u32 w u Y) (c : Bool) (hc : (decide (m < X.length) || decide (m < Y.length)) = c) :
    Calls Try.prog 46 #[.int .i64 m, v, u] w fun e w' => e = .returned (.bool c) ∧ w = w' := by
  obtain ⟨a, ca, hv, _⟩ := hX.len
  obtain ⟨b, cb, hu, _⟩ := hY.len
  subst hv; subst hu; subst hc
  by_cases h1 : m < X.length
  · have h1' : (m : Int) < (X.length : Int) := by omega
    go_enter Try.func46, Try.ntmps46
    go_wp2
    go_ret
    exact ⟨by simp [h1], rfl⟩
  have h1' : ¬ (m : Int) < (X.length : Int) := by omega
  by_cases h2 : m < Y.length
  · have h2' : (m : Int) < (Y.length : Int) := by omega
    go_enter Try.func46, Try.ntmps46
    go_wp2
    go_ret
    exact ⟨by simp, rfl⟩
  · have h2' : ¬ (m : Int) < (Y.length : Int) := by omega
    go_enter Try.func46, Try.ntmps46
    go_wp2
    go_ret
    exact ⟨by simp, rfl⟩

theorem RTrim_any {w : World} (v : Value) (X : List Int) (hX : Sl .u32 w v X) (uX : U32s X) (hl : X.length ≤ 268435456) (N : Int) (hN : val X = N) :
    Calls Try.prog 17 #[v] w fun e w' => ∃ r, e = .returned r ∧ Sl .u32 w' r (lim N.toNat) ∧ Below w.heap.size w w' := by
  have nN : 0 ≤ N := hN ▸ val_nonneg uX
  have bX := val_lt uX
  rw [hN] at bX
  have dN : (D.lim N.toNat).length ≤ 2 * X.length := D.lim_fits nN (by rw [pow16_32]; exact bX)
  have HX : Hid (val X = N) := hN
  have HV : Hid (D.val (D.lim N.toNat) = N) := D.val_limI nN
  have hBt : Below w.heap.size w w := Below.refl _ _
  clear hN bX nN
  go_enter Try.func17, Try.ntmps17
  go_wp2_with (first
    | (go_at_call 49; refine (Digits_any _ X hX uX (by omega) N HX.out).mono ?_; rintro e w' ⟨p, rfl, hp, hB⟩; replace hBt := grow0 hBt hB)
    | (go_at_call 47; refine (Limbs_any _ _ hp (D.lim_u16 _) (by omega) N HV.out).mono ?_; rintro e w' ⟨o, rfl, ho, hB⟩; replace hBt := grow0 hBt hB))
  go_ret
  exact ⟨_, rfl, ho, hBt⟩

theorem RCmp_any {w : World} (v u : Value) (X Y : List Int) (hX : Sl .u32 w v X) (hY : Sl .u32 w u Y) (uX : U32s X) (uY : U32s Y) (lX : X.length ≤ 268435456) (lY : Y.length ≤ 268435456) (c : Int) (hc : cmpI (val X) (val Y) = c) :
    Calls Try.prog 21 #[v, u] w fun e w' => e = .returned (.int .i64 c) ∧ Below w.heap.size w w' := by
  have hBt : Below w.heap.size w w := Below.refl _ _
  obtain ⟨NX, hNX⟩ : ∃ n, val X = n := ⟨_, rfl⟩
  obtain ⟨NY, hNY⟩ : ∃ n, val Y = n := ⟨_, rfl⟩
  have HX : Hid (val X = NX) := hNX
  have HY : Hid (val Y = NY) := hNY
  have nX : 0 ≤ NX := hNX ▸ val_nonneg uX
  have nY : 0 ≤ NY := hNY ▸ val_nonneg uY
  have bX := val_lt uX; have bY := val_lt uY
  rw [hNX] at bX; rw [hNY] at bY
  have dX : (D.lim NX.toNat).length ≤ 2 * X.length := D.lim_fits nX (by rw [pow16_32]; exact bX)
  have dY : (D.lim NY.toNat).length ≤ 2 * Y.length := D.lim_fits nY (by rw [pow16_32]; exact bY)
  have HC : Hid (cmpI (D.val (D.lim NX.toNat)) (D.val (D.lim NY.toNat)) = c) := by rw [D.val_limI nX, D.val_limI nY, ← hNX, ← hNY]; exact hc
  clear hNX hNY bX bY nX nY hc
  go_enter Try.func21, Try.ntmps21
  go_wp2_with (first
    | (go_at_call 49; replace hp := hp; refine (Digits_any _ Y hY uY (by omega) NY HY.out).mono ?_; rintro e w' ⟨q, rfl, hq, hB⟩; replace hp := below_sl hB hp; replace hBt := grow0 hBt hB)
    | (go_at_call 49; refine (Digits_any _ X hX uX (by omega) NX HX.out).mono ?_; rintro e w' ⟨p, rfl, hp, hB⟩; replace hY := below_sl hB hY; replace hBt := grow0 hBt hB)
    | (go_at_call 54; refine (order_any _ _ _ _ hp hq (D.lim_u16 _) (D.lim_u16 _) (by omega) (by omega) c HC.out).mono ?_; rintro e w' ⟨rfl, rfl⟩))
  go_ret
  exact ⟨rfl, hBt⟩

set_option maxHeartbeats 2000000 in
theorem RAdd_any (X Y : List Int) (v u : Value) (w : World) (hX : Sl .u32 w v X) (hY : Sl .u32 w u Y) (uX : U32s X) (uY : U32s Y) :
    Calls Try.prog 11 #[v, u] w fun e w' => RTwo w' e (addS X Y) ∧ Below w.heap.size w w' := by
  have hBt : Below w.heap.size w w := Below.refl _ _
  by_cases hlong : 512 < X.length ∨ 512 < Y.length
  · have hb : (decide (512 < X.length) || decide (512 < Y.length)) = true := by simpa using hlong
    have HL : Hid (addS X Y = ([], 3)) := by unfold addS; rw [if_pos hlong]; rfl
    clear hlong
    go_enter Try.func11, Try.ntmps11
    go_wp2_with (go_at_call 46; refine (long_any _ _ _ X Y hX hY true (by assumption)).mono ?_; rintro e w' ⟨rfl, rfl⟩)
    go_ret2
    exact ⟨RTwo.nil' HL.out, Below.refl _ _⟩
  have hb : (decide (512 < X.length) || decide (512 < Y.length)) = false := by simpa using hlong
  have lX : X.length ≤ 512 := by omega
  have lY : Y.length ≤ 512 := by omega
  obtain ⟨NX, hNX⟩ : ∃ n, val X = n := ⟨_, rfl⟩
  obtain ⟨NY, hNY⟩ : ∃ n, val Y = n := ⟨_, rfl⟩
  have HX : Hid (val X = NX) := hNX
  have HY : Hid (val Y = NY) := hNY
  have nX : 0 ≤ NX := hNX ▸ val_nonneg uX
  have nY : 0 ≤ NY := hNY ▸ val_nonneg uY
  have bX := val_lt uX; have bY := val_lt uY
  rw [hNX] at bX; rw [hNY] at bY
  have dX : (D.lim NX.toNat).length ≤ 2 * X.length := D.lim_fits nX (by rw [pow16_32]; exact bX)
  have dY : (D.lim NY.toNat).length ≤ 2 * Y.length := D.lim_fits nY (by rw [pow16_32]; exact bY)
  obtain ⟨N, hN⟩ : ∃ N, NX + NY = N := ⟨_, rfl⟩
  have nN : 0 ≤ N := by rw [← hN]; exact Int.add_nonneg nX nY
  have HN : Hid (D.val (D.lim NX.toNat) + D.val (D.lim NY.toNat) = N) := by rw [D.val_limI nX, D.val_limI nY]; exact hN
  have dN : (D.lim N.toNat).length ≤ 4096 := D.lim_fits nN (by
    have p1 := pow_mono (show X.length ≤ 512 by omega); have p2 := pow_mono (show Y.length ≤ 512 by omega)
    have p3 : (65536 : Int) ^ (2 * 513) = 4294967296 * 4294967296 ^ 512 := by rw [pow16_32, pow_succ32]
    have p4 := D.pow_mono (show 2 * 513 ≤ 4096 by decide)
    omega)
  have HV : Hid (D.val (D.lim N.toNat) = N) := D.val_limI nN
  have HS : Hid (addS X Y = fit (lim N.toNat)) := by unfold addS; rw [if_neg hlong, hNX, hNY, hN]; rfl
  clear hNX hNY hN bX bY hlong nX nY
  by_cases hbig : 512 < (lim N.toNat).length
  · have HF : Hid (addS X Y = ([], 3)) := by rw [HS.out]; unfold fit; rw [if_pos hbig]; rfl
    go_enter Try.func11, Try.ntmps11
    go_wp2_with (first
    | (go_at_call 46; refine (long_any _ _ _ X Y hX hY false (by assumption)).mono ?_; rintro e w' ⟨rfl, rfl⟩)
    | (go_at_call 49; replace hp := hp; refine (Digits_any _ Y hY uY (by omega) NY HY.out).mono ?_; rintro e w' ⟨q, rfl, hq, hB⟩; replace hp := below_sl hB hp; replace hBt := grow0 hBt hB)
    | (go_at_call 49; refine (Digits_any _ X hX uX (by omega) NX HX.out).mono ?_; rintro e w' ⟨p, rfl, hp, hB⟩; replace hY := below_sl hB hY; replace hBt := grow0 hBt hB)
    | (go_at_call 48; refine (add_any _ _ _ _ hp hq (D.lim_u16 _) (D.lim_u16 _) (by omega) (by omega) N HN.out).mono ?_; rintro e w' ⟨r, rfl, hr, hB⟩; replace hBt := grow0 hBt hB)
    | (go_at_call 47; refine (Limbs_any _ _ hr (D.lim_u16 _) (by omega) N HV.out).mono ?_; rintro e w' ⟨o, rfl, ho, hB⟩; replace hBt := grow0 hBt hB; obtain ⟨ao, co, hov, _⟩ := ho.len; subst hov))
    go_ret2
    exact ⟨RTwo.nil' HF.out, hBt⟩
  · have HF : Hid (addS X Y = (lim N.toNat, 0)) := by rw [HS.out]; unfold fit; rw [if_neg hbig]; rfl
    go_enter Try.func11, Try.ntmps11
    go_wp2_with (first
    | (go_at_call 46; refine (long_any _ _ _ X Y hX hY false (by assumption)).mono ?_; rintro e w' ⟨rfl, rfl⟩)
    | (go_at_call 49; replace hp := hp; refine (Digits_any _ Y hY uY (by omega) NY HY.out).mono ?_; rintro e w' ⟨q, rfl, hq, hB⟩; replace hp := below_sl hB hp; replace hBt := grow0 hBt hB)
    | (go_at_call 49; refine (Digits_any _ X hX uX (by omega) NX HX.out).mono ?_; rintro e w' ⟨p, rfl, hp, hB⟩; replace hY := below_sl hB hY; replace hBt := grow0 hBt hB)
    | (go_at_call 48; refine (add_any _ _ _ _ hp hq (D.lim_u16 _) (D.lim_u16 _) (by omega) (by omega) N HN.out).mono ?_; rintro e w' ⟨r, rfl, hr, hB⟩; replace hBt := grow0 hBt hB)
    | (go_at_call 47; refine (Limbs_any _ _ hr (D.lim_u16 _) (by omega) N HV.out).mono ?_; rintro e w' ⟨o, rfl, ho, hB⟩; replace hBt := grow0 hBt hB; obtain ⟨ao, co, hov, _⟩ := ho.len; subst hov))
    go_ret2
    exact ⟨RTwo.mk' ho HF.out, hBt⟩

set_option maxHeartbeats 2000000 in
theorem RMul_any (X Y : List Int) (v u : Value) (w : World) (hX : Sl .u32 w v X) (hY : Sl .u32 w u Y) (uX : U32s X) (uY : U32s Y) :
    Calls Try.prog 25 #[v, u] w fun e w' => RTwo w' e (mulS X Y) ∧ Below w.heap.size w w' := by
  have hBt : Below w.heap.size w w := Below.refl _ _
  by_cases hlong : 512 < X.length ∨ 512 < Y.length
  · have hb : (decide (512 < X.length) || decide (512 < Y.length)) = true := by simpa using hlong
    have HL : Hid (mulS X Y = ([], 3)) := by unfold mulS; rw [if_pos hlong]; rfl
    clear hlong
    go_enter Try.func25, Try.ntmps25
    go_wp2_with (go_at_call 46; refine (long_any _ _ _ X Y hX hY true (by assumption)).mono ?_; rintro e w' ⟨rfl, rfl⟩)
    go_ret2
    exact ⟨RTwo.nil' HL.out, Below.refl _ _⟩
  have hb : (decide (512 < X.length) || decide (512 < Y.length)) = false := by simpa using hlong
  have lX : X.length ≤ 512 := by omega
  have lY : Y.length ≤ 512 := by omega
  obtain ⟨NX, hNX⟩ : ∃ n, val X = n := ⟨_, rfl⟩
  obtain ⟨NY, hNY⟩ : ∃ n, val Y = n := ⟨_, rfl⟩
  have HX : Hid (val X = NX) := hNX
  have HY : Hid (val Y = NY) := hNY
  have nX : 0 ≤ NX := hNX ▸ val_nonneg uX
  have nY : 0 ≤ NY := hNY ▸ val_nonneg uY
  have bX := val_lt uX; have bY := val_lt uY
  rw [hNX] at bX; rw [hNY] at bY
  have dX : (D.lim NX.toNat).length ≤ 2 * X.length := D.lim_fits nX (by rw [pow16_32]; exact bX)
  have dY : (D.lim NY.toNat).length ≤ 2 * Y.length := D.lim_fits nY (by rw [pow16_32]; exact bY)
  obtain ⟨N, hN⟩ : ∃ N, NX * NY = N := ⟨_, rfl⟩
  have nN : 0 ≤ N := by rw [← hN]; exact Int.mul_nonneg nX nY
  have HN : Hid (D.val (D.lim NX.toNat) * D.val (D.lim NY.toNat) = N) := by rw [D.val_limI nX, D.val_limI nY]; exact hN
  have dN : (D.lim N.toNat).length ≤ 4096 := D.lim_fits nN (by
    have p1 := pow_mono (show X.length ≤ 512 by omega); have p2 := pow_mono (show Y.length ≤ 512 by omega)
    have p3 : (65536 : Int) ^ 4096 = 4294967296 ^ 1024 * 4294967296 ^ 1024 := by rw [show 4096 = 2 * (1024 + 1024) by rfl, pow16_32, Int.pow_add]
    have p5 := pow_mono (show 512 ≤ 1024 by decide)
    rw [p3, ← hN]
    calc NX * NY ≤ NX * 4294967296 ^ 1024 := Int.mul_le_mul_of_nonneg_left (by omega) nX
      _ < 4294967296 ^ 1024 * 4294967296 ^ 1024 := Int.mul_lt_mul_of_pos_right (by omega) (pow_pos32 _))
  have HV : Hid (D.val (D.lim N.toNat) = N) := D.val_limI nN
  have HS : Hid (mulS X Y = fit (lim N.toNat)) := by unfold mulS; rw [if_neg hlong, hNX, hNY, hN]; rfl
  clear hNX hNY hN bX bY hlong nX nY
  by_cases hbig : 512 < (lim N.toNat).length
  · have HF : Hid (mulS X Y = ([], 3)) := by rw [HS.out]; unfold fit; rw [if_pos hbig]; rfl
    go_enter Try.func25, Try.ntmps25
    go_wp2_with (first
    | (go_at_call 46; refine (long_any _ _ _ X Y hX hY false (by assumption)).mono ?_; rintro e w' ⟨rfl, rfl⟩)
    | (go_at_call 49; replace hp := hp; refine (Digits_any _ Y hY uY (by omega) NY HY.out).mono ?_; rintro e w' ⟨q, rfl, hq, hB⟩; replace hp := below_sl hB hp; replace hBt := grow0 hBt hB)
    | (go_at_call 49; refine (Digits_any _ X hX uX (by omega) NX HX.out).mono ?_; rintro e w' ⟨p, rfl, hp, hB⟩; replace hY := below_sl hB hY; replace hBt := grow0 hBt hB)
    | (go_at_call 56; refine (mul_any _ _ _ _ hp hq (D.lim_u16 _) (D.lim_u16 _) (by omega) (by omega) N HN.out).mono ?_; rintro e w' ⟨r, rfl, hr, hB⟩; replace hBt := grow0 hBt hB)
    | (go_at_call 47; refine (Limbs_any _ _ hr (D.lim_u16 _) (by omega) N HV.out).mono ?_; rintro e w' ⟨o, rfl, ho, hB⟩; replace hBt := grow0 hBt hB; obtain ⟨ao, co, hov, _⟩ := ho.len; subst hov))
    go_ret2
    exact ⟨RTwo.nil' HF.out, hBt⟩
  · have HF : Hid (mulS X Y = (lim N.toNat, 0)) := by rw [HS.out]; unfold fit; rw [if_neg hbig]; rfl
    go_enter Try.func25, Try.ntmps25
    go_wp2_with (first
    | (go_at_call 46; refine (long_any _ _ _ X Y hX hY false (by assumption)).mono ?_; rintro e w' ⟨rfl, rfl⟩)
    | (go_at_call 49; replace hp := hp; refine (Digits_any _ Y hY uY (by omega) NY HY.out).mono ?_; rintro e w' ⟨q, rfl, hq, hB⟩; replace hp := below_sl hB hp; replace hBt := grow0 hBt hB)
    | (go_at_call 49; refine (Digits_any _ X hX uX (by omega) NX HX.out).mono ?_; rintro e w' ⟨p, rfl, hp, hB⟩; replace hY := below_sl hB hY; replace hBt := grow0 hBt hB)
    | (go_at_call 56; refine (mul_any _ _ _ _ hp hq (D.lim_u16 _) (D.lim_u16 _) (by omega) (by omega) N HN.out).mono ?_; rintro e w' ⟨r, rfl, hr, hB⟩; replace hBt := grow0 hBt hB)
    | (go_at_call 47; refine (Limbs_any _ _ hr (D.lim_u16 _) (by omega) N HV.out).mono ?_; rintro e w' ⟨o, rfl, ho, hB⟩; replace hBt := grow0 hBt hB; obtain ⟨ao, co, hov, _⟩ := ho.len; subst hov))
    go_ret2
    exact ⟨RTwo.mk' ho HF.out, hBt⟩

set_option maxHeartbeats 2000000 in
theorem RSub_any (X Y : List Int) (v u : Value) (w : World) (hX : Sl .u32 w v X) (hY : Sl .u32 w u Y) (uX : U32s X) (uY : U32s Y) :
    Calls Try.prog 13 #[v, u] w fun e w' => RTwo w' e (subS X Y) ∧ Below w.heap.size w w' := by
  have hBt : Below w.heap.size w w := Below.refl _ _
  by_cases hlong : 512 < X.length ∨ 512 < Y.length
  · have hb : (decide (512 < X.length) || decide (512 < Y.length)) = true := by simpa using hlong
    have HL : Hid (subS X Y = ([], 3)) := by unfold subS; rw [if_pos hlong]; rfl
    clear hlong
    go_enter Try.func13, Try.ntmps13
    go_wp2_with (go_at_call 46; refine (long_any _ _ _ X Y hX hY true (by assumption)).mono ?_; rintro e w' ⟨rfl, rfl⟩)
    go_ret2
    exact ⟨RTwo.nil' HL.out, Below.refl _ _⟩
  have hb : (decide (512 < X.length) || decide (512 < Y.length)) = false := by simpa using hlong
  have lX : X.length ≤ 512 := by omega
  have lY : Y.length ≤ 512 := by omega
  obtain ⟨NX, hNX⟩ : ∃ n, val X = n := ⟨_, rfl⟩
  obtain ⟨NY, hNY⟩ : ∃ n, val Y = n := ⟨_, rfl⟩
  have HX : Hid (val X = NX) := hNX
  have HY : Hid (val Y = NY) := hNY
  have nX : 0 ≤ NX := hNX ▸ val_nonneg uX
  have nY : 0 ≤ NY := hNY ▸ val_nonneg uY
  have bX := val_lt uX; have bY := val_lt uY
  rw [hNX] at bX; rw [hNY] at bY
  have dX : (D.lim NX.toNat).length ≤ 2 * X.length := D.lim_fits nX (by rw [pow16_32]; exact bX)
  have dY : (D.lim NY.toNat).length ≤ 2 * Y.length := D.lim_fits nY (by rw [pow16_32]; exact bY)
  by_cases hlt : NX < NY
  · have HC : Hid (cmpI (val X) (val Y) = -1) := by rw [hNX, hNY]; unfold cmpI; rw [if_pos hlt]; rfl
    have HF : Hid (subS X Y = ([], 10)) := by unfold subS; rw [if_neg hlong, hNX, hNY, if_pos hlt]; rfl
    clear hNX hNY bX bY hlong nX nY
    go_enter Try.func13, Try.ntmps13
    go_wp2_with (first
    | (go_at_call 46; refine (long_any _ _ _ X Y hX hY false (by assumption)).mono ?_; rintro e w' ⟨rfl, rfl⟩)
    | (go_at_call 21; refine (RCmp_any _ _ X Y hX hY uX uY (by omega) (by omega) (-1) HC.out).mono ?_; rintro e w' ⟨rfl, hB⟩; replace hBt := grow0 hBt hB))
    go_ret2
    exact ⟨RTwo.nil' HF.out, hBt⟩
  obtain ⟨c, hc⟩ : ∃ c, cmpI (val X) (val Y) = c := ⟨_, rfl⟩
  have hc0 : ¬ c < 0 := by rw [← hc, hNX, hNY]; unfold cmpI; rw [if_neg hlt]; split <;> decide
  have HC : Hid (cmpI (val X) (val Y) = c) := hc
  obtain ⟨N, hN⟩ : ∃ N, NX - NY = N := ⟨_, rfl⟩
  have nN : 0 ≤ N := by omega
  have HN : Hid (D.val (D.lim NX.toNat) - D.val (D.lim NY.toNat) = N) := by rw [D.val_limI nX, D.val_limI nY]; exact hN
  have dN : (D.lim N.toNat).length ≤ 2 * X.length := D.lim_fits nN (by rw [pow16_32]; omega)
  have HV : Hid (D.val (D.lim N.toNat) = N) := D.val_limI nN
  have HF : Hid (subS X Y = (lim N.toNat, 0)) := by unfold subS; rw [if_neg hlong, hNX, hNY, if_neg hlt, hN]; rfl
  clear hNX hNY hN bX bY hlong nX nY hc hlt
  go_enter Try.func13, Try.ntmps13
  go_wp2_with (first
    | (go_at_call 46; refine (long_any _ _ _ X Y hX hY false (by assumption)).mono ?_; rintro e w' ⟨rfl, rfl⟩)
    | (go_at_call 21; refine (RCmp_any _ _ X Y hX hY uX uY (by omega) (by omega) c HC.out).mono ?_; rintro e w' ⟨rfl, hB⟩; replace hX := below_sl hB hX; replace hY := below_sl hB hY; replace hBt := grow0 hBt hB)
    | (go_at_call 49; replace hp := hp; refine (Digits_any _ Y hY uY (by omega) NY HY.out).mono ?_; rintro e w' ⟨q, rfl, hq, hB⟩; replace hp := below_sl hB hp; replace hBt := grow0 hBt hB)
    | (go_at_call 49; refine (Digits_any _ X hX uX (by omega) NX HX.out).mono ?_; rintro e w' ⟨p, rfl, hp, hB⟩; replace hY := below_sl hB hY; replace hBt := grow0 hBt hB)
    | (go_at_call 51; refine (sub_any _ _ _ _ hp hq (D.lim_u16 _) (D.lim_u16 _) (by omega) (by omega) N HN.out nN).mono ?_; rintro e w' ⟨r, rfl, hr, hB⟩; replace hBt := grow0 hBt hB)
    | (go_at_call 47; refine (Limbs_any _ _ hr (D.lim_u16 _) (by omega) N HV.out).mono ?_; rintro e w' ⟨o, rfl, ho, hB⟩; replace hBt := grow0 hBt hB))
  go_ret2
  exact ⟨RTwo.mk' ho HF.out, hBt⟩
end Go.Proofs.Ythkheocggcmooaa
