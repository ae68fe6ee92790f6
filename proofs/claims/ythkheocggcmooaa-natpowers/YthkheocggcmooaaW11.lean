/-
  The walks of divide, rest, DivMod: any quotient and rest (the long division's own walk is handed in as a hypothesis: LongOK).
-/
import Derived.Test.YthkheocggcmooaaW9
import Derived.Test.YthkheocggcmooaaW10
namespace Go.Proofs.Ythkheocggcmooaa
open Go.RowKit

/-- Quotient and rest as two results. -/
def QR (B : Nat) (w : World) (e : Ending) (x y : Int) : Prop := ∃ q r, e = .returned (.tuple #[q, r]) ∧ Own B w q (lim (x / y).toNat) ∧ Own B w r (lim (x % y).toNat)

/-- The long division keeps its promise. -/
def LongOK : Prop := ∀ (X Y : List Int) (v u : Value) (w : World), Sl .u32 w v X → Sl .u32 w u Y → U32s X → U32s Y → sig X = X.length → sig Y = Y.length → 2 ≤ Y.length → val Y ≤ val X → X.length ≤ 1073741824 →
    Calls Try.prog 69 #[v, u] w fun e w' => QR w.heap.size w' e (val X) (val Y) ∧ Below w.heap.size w w'

set_option maxHeartbeats 1000000 in
theorem divide_any (X Y : List Int) (v u : Value) (w : World) (hX : Sl .u32 w v X) (hY : Sl .u32 w u Y) (uX : U32s X) (uY : U32s Y) (sX : sig X = X.length) (sY : sig Y = Y.length) (h0 : Y ≠ []) (lX : X.length ≤ 1073741824) (lY : Y.length ≤ 1073741824)
    (H : Y.length = 1 ∨ LongOK) :
    Calls Try.prog 57 #[v, u] w fun e w' => QR w.heap.size w' e (val X) (val Y) ∧ Below w.heap.size w w' := by
  have hY0 : 0 < Y.length := by cases Y <;> simp at *
  obtain ⟨a1, c1, rfl, _⟩ := hX.len
  obtain ⟨a2, c2, rfl, hc2, hYr⟩ := id hY
  have nX := val_nonneg uX
  by_cases hlt : val X < val Y
  · have hc : cmpI (val X) (val Y) = -1 := by unfold cmpI; rw [if_pos hlt]
    have HE : Hid (val X / val Y = 0 ∧ val X % val Y = val X) := ⟨Int.ediv_eq_zero_of_lt nX hlt, Int.emod_eq_of_lt nX hlt⟩
    clear hlt
    go_enter Try.func57, Try.ntmps57
    go_wp2_with (first
      | (go_at_call 20; refine (Cmp_sl _ _ X Y hX hY uX uY (by omega) (by omega) _ hc).mono ?_; rintro e w1 ⟨rfl, hB⟩; have hX1 := below_sl hB hX)
      | (go_at_call 16; refine (Trim_any X _ _ hX1 uX (by omega)).mono ?_; rintro e w2 ⟨r, rfl, hr, hB2⟩))
    go_ret2
    obtain ⟨e1, e2⟩ := HE.out
    refine ⟨⟨_, _, rfl, ?_, ?_⟩, hB.trans (hB2.mono hB.size)⟩
    · rw [e1]; exact .inl ⟨rfl, by simp [lim_zero]⟩
    · rw [e2]; exact hr.mono hB.size
  · obtain ⟨c, hc, hc0⟩ : ∃ c, cmpI (val X) (val Y) = c ∧ 0 ≤ c := by
      unfold cmpI; rw [if_neg hlt]; split
      · exact ⟨1, rfl, by decide⟩
      · exact ⟨0, rfl, by decide⟩
    by_cases h1 : Y.length = 1
    · obtain ⟨y, rfl⟩ : ∃ y, Y = [y] := by
        match Y, h1 with
        | [y], _ => exact ⟨y, rfl⟩
      have uy : U32 y := uY.head
      have hy0 : y ≠ 0 := by intro h; subst h; simp [sig] at sY
      have hvy : val [y] = y := by simp [val]
      rcases hYr with hYr | ⟨b, o, rfl, hb, hr⟩
      · simp at hYr
      have hcell := hr 0 (by simp)
      simp at hcell
      have HE : Hid (val [y] = y) := hvy
      obtain ⟨u1, u2⟩ := uy
      have hy1 : 0 < y := by omega
      clear hlt hr hvy sY h1
      simp only [List.length_cons, List.length_nil] at hY hc2 ⊢
      go_enter Try.func57, Try.ntmps57
      go_wp2_with (first
        | (go_at_call 20; refine (Cmp_sl _ _ X [y] hX hY uX uY (by omega) (by simp) _ hc).mono ?_; rintro e w1 ⟨rfl, hB⟩; have hX1 := below_sl hB hX; have hcell1 := (hB.cell (p := ⟨b, o, none⟩) hb).trans hcell)
        | (go_at_call 68; refine (divideByLimb_any X y _ _ hX1 uX hy1 u2 (by omega)).mono ?_; rintro e w2 ⟨q, r, rfl, hq, hr, hB2⟩))
      go_ret2
      rw [HE.out]
      exact ⟨⟨_, _, rfl, hq.mono hB.size, hr.mono hB.size⟩, hB.trans (hB2.mono hB.size)⟩
    · have H2 : LongOK := by rcases H with h | h; exact absurd h h1; exact h
      have HH : Hid (LongOK ∧ val Y ≤ val X) := ⟨H2, by omega⟩
      have hY2 : 2 ≤ Y.length := by omega
      clear hlt H H2 hYr
      go_enter Try.func57, Try.ntmps57
      go_wp2_with (first
        | (go_at_call 20; refine (Cmp_sl _ _ X Y hX hY uX uY (by omega) (by omega) _ hc).mono ?_; rintro e w1 ⟨rfl, hB⟩; have hX1 := below_sl hB hX; have hY1 := below_sl hB hY)
        | (go_at_call 69; refine (HH.out.1 X Y _ _ _ hX1 hY1 uX uY sX sY hY2 HH.out.2 lX).mono ?_; rintro e w2 ⟨⟨q, r, rfl, hq, hr⟩, hB2⟩))
      go_ret2
      exact ⟨⟨_, _, rfl, hq.mono hB.size, hr.mono hB.size⟩, hB.trans (hB2.mono hB.size)⟩

set_option maxHeartbeats 400000 in
theorem rest_any (X Y : List Int) (v u : Value) (w : World) (hX : Sl .u32 w v X) (hY : Sl .u32 w u Y) (uX : U32s X) (uY : U32s Y) (sX : sig X = X.length) (sY : sig Y = Y.length) (h0 : Y ≠ []) (lX : X.length ≤ 1073741824) (lY : Y.length ≤ 1073741824)
    (H : Y.length = 1 ∨ LongOK) :
    Calls Try.prog 70 #[v, u] w fun e w' => ∃ r, e = .returned r ∧ Own w.heap.size w' r (lim (val X % val Y).toNat) ∧ Below w.heap.size w w' := by
  go_enter Try.func70, Try.ntmps70
  go_wp2_with (go_at_call 57; refine (divide_any X Y v u w hX hY uX uY sX sY h0 lX lY H).mono ?_; rintro e w2 ⟨⟨q, r, rfl, hq, hr⟩, hB2⟩)
  go_ret
  exact ⟨_, rfl, hr, hB2⟩

/-- Three results: quotient, rest, error. -/
def divS (X Y : List Int) : List Int × List Int × Int := if 512 < X.length ∨ 512 < Y.length then ([], [], 3) else if val Y = 0 then ([], [], 11) else (lim (val X / val Y).toNat, lim (val X % val Y).toNat, 0)
def Three (B : Nat) (w : World) (e : Ending) (s : List Int × List Int × Int) : Prop := ∃ q r, e = .returned (.tuple #[q, r, .int .i64 s.2.2]) ∧ Own B w q s.1 ∧ Own B w r s.2.1
theorem Three.nil' {B : Nat} {w : World} {n : Int} {s : List Int × List Int × Int} (hs : s = ([], [], n)) : Three B w (.returned (.tuple #[.slice none 0 0, .slice none 0 0, .int .i64 n])) s := by
  subst hs; exact ⟨_, _, rfl, .inl ⟨rfl, rfl⟩, .inl ⟨rfl, rfl⟩⟩
theorem Three.mk' {B : Nat} {w : World} {q r : Value} {n : Int} {L M : List Int} {s : List Int × List Int × Int} (h : Own B w q L) (h' : Own B w r M) (hs : s = (L, M, n)) : Three B w (.returned (.tuple #[q, r, .int .i64 n])) s := by
  subst hs; exact ⟨_, _, rfl, h, h'⟩

set_option maxHeartbeats 1000000 in
theorem DivMod_any (X Y : List Int) (v u : Value) (w : World) (hX : Sl .u32 w v X) (hY : Sl .u32 w u Y) (uX : U32s X) (uY : U32s Y) (H : sig Y ≤ 1 ∨ LongOK) :
    Calls Try.prog 26 #[v, u] w fun e w' => Three w.heap.size w' e (divS X Y) ∧ Below w.heap.size w w' := by
  by_cases hlong : 512 < X.length ∨ 512 < Y.length
  · have hb : (decide (512 < X.length) || decide (512 < Y.length)) = true := by simpa using hlong
    have HL : Hid (512 < X.length ∨ 512 < Y.length) := hlong
    clear hlong
    go_enter Try.func26, Try.ntmps26
    go_wp2_with (go_at_call 42; refine (tooLong_sl v u X Y hX hY true hb).mono ?_; rintro e w' ⟨rfl, rfl⟩)
    go_ret3
    exact ⟨Three.nil' (by unfold divS; rw [if_pos HL.out]), Below.refl _ _⟩
  have hb : (decide (512 < X.length) || decide (512 < Y.length)) = false := by simpa using hlong
  have lX : X.length ≤ 1152921504606846976 := by omega
  have lY : Y.length ≤ 1152921504606846976 := by omega
  have HL : Hid (¬ (512 < X.length ∨ 512 < Y.length)) := hlong
  by_cases hz : sig Y = 0
  · have hlen : Len w u 0 := ⟨Y, hY, lY, hz⟩
    have HZ : Hid (val Y = 0) := val_of_sig0 hz
    clear hlong hz
    go_enter Try.func26, Try.ntmps26
    go_wp2_with (first
      | (go_at_call 42; refine (tooLong_sl v u X Y hX hY false hb).mono ?_; rintro e w' ⟨rfl, rfl⟩)
      | (go_at_call 52; refine (length_len _ _ hlen).mono ?_; rintro e w' ⟨rfl, rfl⟩))
    go_ret3
    exact ⟨Three.nil' (by unfold divS; rw [if_neg HL.out, if_pos HZ.out]), Below.refl _ _⟩
  · obtain ⟨m, hm⟩ : ∃ m, sig Y = m + 1 := ⟨sig Y - 1, by omega⟩
    have hlen : Len w u (m + 1) := ⟨Y, hY, lY, hm⟩
    have HZ : Hid (¬ val Y = 0) := fun h => hz (sig0_of_val uY h)
    have uX' := trim_u32 uX
    have uY' := trim_u32 uY
    have lX' : (trim X).length ≤ 1073741824 := by have := sig_le X; rw [trim_len]; omega
    have lY' : (trim Y).length ≤ 1073741824 := by have := sig_le Y; rw [trim_len]; omega
    have hne : trim Y ≠ [] := by intro h; have := trim_len Y; rw [h] at this; simp at this; omega
    have H2 : (trim Y).length = 1 ∨ LongOK := by rw [trim_len]; rcases H with h | h; exact .inl (by omega); exact .inr h
    have HH : Hid ((trim Y).length = 1 ∨ LongOK) := H2
    clear hlong hz hm H H2
    go_enter Try.func26, Try.ntmps26
    go_wp2_with (first
      | (go_at_call 42; refine (tooLong_sl v u X Y hX hY false hb).mono ?_; rintro e w' ⟨rfl, rfl⟩)
      | (go_at_call 52; refine (length_len _ _ hlen).mono ?_; rintro e w' ⟨rfl, rfl⟩)
      | (go_at_call 45; refine (cut_sl _ _ (by assumption) (by assumption)).mono ?_; rintro e w' ⟨r, rfl, hr, rfl⟩)
      | (go_at_call 57; refine (divide_any (trim X) (trim Y) _ _ _ (by assumption) (by assumption) uX' uY' (trim_sig X) (trim_sig Y) hne lX' lY' HH.out).mono ?_; rintro e w2 ⟨⟨q, r, rfl, hq, hr⟩, hB2⟩))
    go_ret3
    rw [trim_val, trim_val] at hq hr
    exact ⟨Three.mk' hq hr (by unfold divS; rw [if_neg HL.out, if_neg HZ.out]), hB2⟩
end Go.Proofs.Ythkheocggcmooaa
