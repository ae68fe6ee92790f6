/-
  The walk of the reference's DivMod.
-/
import Derived.Test.YthkheocggcmooaaW37
import Derived.Test.YthkheocggcmooaaW39
import Derived.Test.YthkheocggcmooaaW11
namespace Go.Proofs.Ythkheocggcmooaa
open Go.RowKit

def RThree (w : World) (e : Ending) (s : List Int × List Int × Int) : Prop := ∃ q r, e = .returned (.tuple #[q, r, .int .i64 s.2.2]) ∧ Sl .u32 w q s.1 ∧ Sl .u32 w r s.2.1
theorem sl_none (w : World) : Sl .u32 w (.slice none 0 0) [] := ⟨none, 0, rfl, Nat.le_refl _, .inl rfl⟩
theorem RThree.nil' {w : World} {n : Int} {s : List Int × List Int × Int} (hs : s = ([], [], n)) : RThree w (.returned (.tuple #[.slice none 0 0, .slice none 0 0, .int .i64 n])) s := by
  subst hs; exact ⟨_, _, rfl, sl_none _, sl_none _⟩
theorem RThree.mk' {w : World} {q r : Value} {n : Int} {L M : List Int} {s : List Int × List Int × Int} (h : Sl .u32 w q L) (h' : Sl .u32 w r M) (hs : s = (L, M, n)) : RThree w (.returned (.tuple #[q, r, .int .i64 n])) s := by
  subst hs; exact ⟨q, r, rfl, h, h'⟩

set_option maxHeartbeats 2000000 in
theorem RDivMod_any (X Y : List Int) (v u : Value) (w : World) (hX : Sl .u32 w v X) (hY : Sl .u32 w u Y) (uX : U32s X) (uY : U32s Y) :
    Calls Try.prog 27 #[v, u] w fun e w' => RThree w' e (divS X Y) ∧ Below w.heap.size w w' := by
  have hBt : Below w.heap.size w w := Below.refl _ _
  by_cases hlong : 512 < X.length ∨ 512 < Y.length
  · have hb : (decide (512 < X.length) || decide (512 < Y.length)) = true := by simpa using hlong
    have HL : Hid (divS X Y = ([], [], 3)) := by unfold divS; rw [if_pos hlong]; rfl
    clear hlong
    go_enter Try.func27, Try.ntmps27
    go_wp2_with (go_at_call 46; refine (long_any _ _ _ X Y hX hY true (by assumption)).mono ?_; rintro e w' ⟨rfl, rfl⟩)
    go_ret3
    exact ⟨RThree.nil' HL.out, Below.refl _ _⟩
  have hb : (decide (512 < X.length) || decide (512 < Y.length)) = false := by simpa using hlong
  have lX : X.length ≤ 512 := by omega
  have lY : Y.length ≤ 512 := by omega
  obtain ⟨NX, hNX⟩ : ∃ n, val X = n := ⟨_, rfl⟩
  obtain ⟨NY, hNY⟩ : ∃ n, val Y = n := ⟨_, rfl⟩
  have HX : Hid (val X = NX) := hNX
  have HY : Hid (val Y = NY) := hNY
  have nX : 0 ≤ NX := hNX ▸ val_nonneg uX
  have nY : 0 ≤ NY := hNY ▸ val_nonneg uY
  have bX := val_lt uX; have bY := val_lt uY
  rw [hNX] at bX; rw [hNY] at bY
  have dX : (D.lim NX.toNat).length ≤ 2 * X.length := D.lim_fits nX (by rw [pow16_32]; exact bX)
  have dY : (D.lim NY.toNat).length ≤ 2 * Y.length := D.lim_fits nY (by rw [pow16_32]; exact bY)
  by_cases h0 : NY = 0
  · have HL : Hid (divS X Y = ([], [], 11)) := by unfold divS; rw [if_neg hlong, hNY, if_pos h0]; rfl
    have hdl : D.lim NY.toNat = [] := by rw [h0]; rfl
    have HD : Hid (D.lim NY.toNat = []) := hdl
    clear hlong hdl hNX hNY bX bY dX dY nX nY h0
    go_enter Try.func27, Try.ntmps27
    go_wp2_with (first
      | (go_at_call 46; refine (long_any _ _ _ X Y hX hY false (by assumption)).mono ?_; rintro e w' ⟨rfl, rfl⟩)
      | (go_at_call 49; refine (Digits_any _ Y hY uY (by omega) NY HY.out).mono ?_; rintro e w' ⟨q, rfl, hq, hB⟩; rw [HD.out] at hq; replace hBt := grow0 hBt hB; obtain ⟨aq, cq, hqv, _⟩ := hq.len; simp only [List.length_nil] at hqv; subst hqv))
    go_ret3
    exact ⟨RThree.nil' HL.out, hBt⟩
  have hM : 0 < NY := by omega
  have hdp : (D.lim NY.toNat).length ≠ 0 := fun h => by have := (D.len_val (n := NY.toNat)).1 h; omega
  obtain ⟨ld, hld⟩ : ∃ ld, (D.lim NY.toNat).length = ld + 1 := ⟨(D.lim NY.toNat).length - 1, by omega⟩
  obtain ⟨Q, hQ⟩ : ∃ Q, NX / NY = Q := ⟨_, rfl⟩
  obtain ⟨R, hR⟩ : ∃ R, NX % NY = R := ⟨_, rfl⟩
  have q0 : 0 ≤ Q := by rw [← hQ]; exact Int.ediv_nonneg nX nY
  have q1 : Q ≤ NX := by rw [← hQ]; exact Int.ediv_le_self _ nX
  have r0 : 0 ≤ R := by rw [← hR]; exact Int.emod_nonneg _ h0
  have r1 : R < NY := by rw [← hR]; exact Int.emod_lt_of_pos _ hM
  have dQ : (D.lim Q.toNat).length ≤ 2 * X.length := D.lim_fits q0 (by rw [pow16_32]; omega)
  have dR : (D.lim R.toNat).length ≤ 2 * Y.length := D.lim_fits r0 (by rw [pow16_32]; omega)
  have HQ : Hid (D.val (D.lim NX.toNat) / NY = Q) := by rw [D.val_limI nX]; exact hQ
  have HR : Hid (D.val (D.lim NX.toNat) % NY = R) := by rw [D.val_limI nX]; exact hR
  have HVQ : Hid (D.val (D.lim Q.toNat) = Q) := D.val_limI q0
  have HVR : Hid (D.val (D.lim R.toNat) = R) := D.val_limI r0
  have HL : Hid (divS X Y = (lim Q.toNat, lim R.toNat, 0)) := by unfold divS; rw [if_neg hlong, hNY, if_neg h0, hNX, hQ, hR]; rfl
  have HLD : Hid ((D.lim NY.toNat).length = ld + 1) := hld
  have hld0 : ((ld : Int) + 1 == 0) = false := by simp; omega
  clear hlong hNX hNY bX bY nX nY h0 hdp hQ hR q0 q1 r0 r1 hld
  go_enter Try.func27, Try.ntmps27
  go_wp2_with (first
    | (go_at_call 46; refine (long_any _ _ _ X Y hX hY false (by assumption)).mono ?_; rintro e w' ⟨rfl, rfl⟩)
    | (go_at_call 49; replace hq := hq; refine (Digits_any _ X hX uX (by omega) NX HX.out).mono ?_; rintro e w' ⟨p, rfl, hp, hB⟩; replace hq := below_sl hB hq; replace hBt := grow0 hBt hB)
    | (go_at_call 49; refine (Digits_any _ Y hY uY (by omega) NY HY.out).mono ?_; rintro e w' ⟨q, rfl, hq, hB⟩; replace hX := below_sl hB hX; replace hBt := grow0 hBt hB; obtain ⟨aq, cq, hqv, _⟩ := hq.len; rw [HLD.out] at hqv; subst hqv)
    | (go_at_call 58; refine (divmod_any _ _ _ NY hp hq (D.lim_u16 _) hM (by omega) (by omega) Q R HQ.out HR.out).mono ?_; rintro e w' ⟨s, t, rfl, hs, ht, hB⟩; replace hBt := grow0 hBt hB)
    | (go_at_call 47; replace ho := ho; refine (Limbs_any _ _ ht (D.lim_u16 _) (by omega) R HVR.out).mono ?_; rintro e w' ⟨o2, rfl, ho2, hB⟩; replace ho := below_sl hB ho; replace hBt := grow0 hBt hB)
    | (go_at_call 47; refine (Limbs_any _ _ hs (D.lim_u16 _) (by omega) Q HVQ.out).mono ?_; rintro e w' ⟨o, rfl, ho, hB⟩; replace ht := below_sl hB ht; replace hBt := grow0 hBt hB))
  go_ret3
  exact ⟨RThree.mk' ho ho2 HL.out, hBt⟩
end Go.Proofs.Ythkheocggcmooaa
