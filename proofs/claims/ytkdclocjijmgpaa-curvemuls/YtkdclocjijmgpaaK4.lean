/-
  The walks of Len32, Bits.
-/
import Derived.Laws.MathBits
import Derived.Deep.LoopGhost
import Derived.RegionTactic
import Derived.BigRegion
import Derived.Test.YtkdclocjijmgpaaK3
namespace Go.Proofs.Ytkdclocjijmgpaa.Nt
open Go.RowKit

theorem w64 (z : Int) (h0 : 0 ≤ z) (h1 : z < 9223372036854775808) : wrap64 z = z := by unfold wrap64; omega

set_option maxRecDepth 1000000 in
set_option maxHeartbeats 2000000 in
theorem Len32_any (x : Int) (hx : U32 x) (w : World) :
    Calls Try.prog 97 #[.int .u32 x] w fun e w' => e = .returned (.int .i64 (bitLen x.toNat)) ∧ w' = w := by
  obtain ⟨h0, h1⟩ := hx
  by_cases g1 : 65536 ≤ x
  · have s1 := bitLen_shift x.toNat 16 (by omega)
    by_cases g2 : 256 ≤ x / 65536
    · have s2 := bitLen_shift (x.toNat / 2 ^ 16) 8 (by omega)
      have e1 : x.toNat / 2 ^ 16 / 2 ^ 8 = (x / 65536 / 256).toNat := by omega
      rw [e1] at s2
      have HS : Hid (bitLen x.toNat = 16 + (8 + bitLen (x / 65536 / 256).toNat)) := by rw [s1, s2]; rfl
      have g3 : x / 65536 / 256 < 256 := by omega
      have g4 : 0 ≤ x / 65536 / 256 := by omega
      have l8 := bitLen_le8 (x / 65536 / 256).toNat (by omega)
      clear s1 s2 e1
      go_enter Try.func97, Try.ntmps97
      go_wp2
      go_ret
      refine ⟨ret_int ?_, rfl⟩
      rw [HS.out, len8tab_get, w64 (bitLen _) (by omega) (by omega), w64 _ (by omega) (by omega)]; omega
    · have e1 : x.toNat / 2 ^ 16 = (x / 65536).toNat := by omega
      rw [e1] at s1
      have HS : Hid (bitLen x.toNat = 16 + bitLen (x / 65536).toNat) := s1
      have g3 : x / 65536 < 256 := by omega
      have g4 : 0 ≤ x / 65536 := by omega
      have l8 := bitLen_le8 (x / 65536).toNat (by omega)
      clear s1 e1
      go_enter Try.func97, Try.ntmps97
      go_wp2
      go_ret
      refine ⟨ret_int ?_, rfl⟩
      rw [HS.out, len8tab_get, w64 (bitLen _) (by omega) (by omega), w64 _ (by omega) (by omega)]; omega
  · by_cases g2 : 256 ≤ x
    · have s1 := bitLen_shift x.toNat 8 (by omega)
      have e1 : x.toNat / 2 ^ 8 = (x / 256).toNat := by omega
      rw [e1] at s1
      have HS : Hid (bitLen x.toNat = 8 + bitLen (x / 256).toNat) := s1
      have g3 : x / 256 < 256 := by omega
      have g4 : 0 ≤ x / 256 := by omega
      have l8 := bitLen_le8 (x / 256).toNat (by omega)
      clear s1 e1
      go_enter Try.func97, Try.ntmps97
      go_wp2
      go_ret
      refine ⟨ret_int ?_, rfl⟩
      rw [HS.out, len8tab_get, w64 (bitLen _) (by omega) (by omega), w64 _ (by omega) (by omega)]; omega
    · have g3 : x < 256 := by omega
      have l8 := bitLen_le8 x.toNat (by omega)
      go_enter Try.func97, Try.ntmps97
      go_wp2
      go_ret
      refine ⟨ret_int ?_, rfl⟩
      rw [len8tab_get, w64 (bitLen _) (by omega) (by omega), w64 (bitLen _) (by omega) (by omega)]

theorem pow32 (m : Nat) : (4294967296 : Int) ^ m = ((2 ^ (32 * m) : Nat) : Int) := by
  rw [Nat.pow_mul]; simp
theorem top_div {xs : List Int} {m : Nat} (hu : U32s xs) (h : sig xs = m + 1) : (val xs).toNat / 2 ^ (32 * m) = (xs.getD m 0).toNat ∧ (xs.getD m 0).toNat ≠ 0 := by
  have hl := sig_le xs
  have e := val_take_sig xs
  rw [h, val_take_succ _ _ (by omega)] at e
  have h1 := val_nonneg (hu.take m); have h2 := val_lt (hu.take m)
  rw [List.length_take, Nat.min_eq_left (by omega)] at h2
  have h3 := hu.at m
  have h4 := sig_pos hu (by omega : 0 < sig xs)
  rw [h, Nat.add_sub_cancel] at h4
  obtain ⟨t, ht⟩ := Int.eq_ofNat_of_zero_le h1
  obtain ⟨y, hy⟩ := Int.eq_ofNat_of_zero_le h3.1
  rw [hy] at h4 ⊢
  refine ⟨?_, by omega⟩
  rw [ht, hy, pow32] at e
  rw [ht, pow32] at h2
  have e2 : (val xs).toNat = t + 2 ^ (32 * m) * y := by rw [← e]; exact Int.toNat_natCast (t + 2 ^ (32 * m) * y)
  have h5 : t < 2 ^ (32 * m) := by exact_mod_cast h2
  rw [e2, Nat.add_mul_div_left _ _ (by omega), Nat.div_eq_of_lt h5]; simp

set_option maxHeartbeats 1000000 in
theorem Bits_any (xs : List Int) (v : Value) (w : World) (hx : Sl .u32 w v xs) (ux : U32s xs) (lx : xs.length ≤ 36028797018963968) :
    Calls Try.prog 73 #[v] w fun e w' => e = .returned (.int .i64 (bitLen (val xs).toNat)) ∧ Below w.heap.size w w' := by
  obtain ⟨a1, c1, rfl, hc1, h1⟩ := id hx
  have hl := sig_le xs
  by_cases h0 : sig xs = 0
  · have hlen : Len w (.slice a1 xs.length c1) 0 := ⟨xs, hx, by omega, h0⟩
    have HB : Hid (bitLen (val xs).toNat = 0) := by rw [val_of_sig0 h0]; rfl
    clear h0
    go_enter Try.func73, Try.ntmps73
    go_wp2_with (go_at_call 62; refine (length_len _ _ hlen).mono ?_; rintro e w' ⟨rfl, rfl⟩)
    go_ret
    exact ⟨ret_int (by rw [HB.out]; rfl), Below.refl _ _⟩
  · obtain ⟨m, hm⟩ : ∃ m, sig xs = m + 1 := ⟨sig xs - 1, by omega⟩
    have hlen : Len w (.slice a1 xs.length c1) (m + 1) := ⟨xs, hx, by omega, hm⟩
    obtain ⟨ht, ht0⟩ := top_div ux hm
    obtain ⟨y, hy⟩ : ∃ y, xs.getD m 0 = y := ⟨_, rfl⟩
    have uy : U32 y := hy ▸ ux.at m
    rw [hy] at ht ht0
    have hs := bitLen_shift (val xs).toNat (32 * m) (by rw [ht]; exact ht0)
    rw [ht] at hs
    have HB : Hid (bitLen (val xs).toNat = 32 * m + bitLen y.toNat) := hs
    rcases h1 with rfl | ⟨b, o, rfl, hb, hr⟩
    · simp at hl; omega
    have hcy : w.cell? ⟨b, o + m, none⟩ = some (.int .u32 y) := by rw [← hy]; exact hr m (by omega)
    have hb32 : bitLen y.toNat ≤ 32 := by
      have := bitLen_spec y.toNat
      apply Classical.byContradiction; intro hc
      have h2 := this.2 (by omega)
      have h3 : 2 ^ 32 ≤ 2 ^ (bitLen y.toNat - 1) := Nat.pow_le_pow_right (by decide) (by omega)
      obtain ⟨u1, u2⟩ := uy
      omega
    obtain ⟨bl, hbl⟩ : ∃ bl, bitLen y.toNat = bl := ⟨_, rfl⟩
    have hcall := Len32_any y uy w
    rw [hbl] at hb32 hcall
    have HB2 : Hid (bitLen (val xs).toNat = 32 * m + bl) := by rw [← hbl]; exact HB.out
    have hmx : m < xs.length := by omega
    clear hs ht ht0 hr h0 hm hy hx hl HB hbl
    go_enter Try.func73, Try.ntmps73
    go_wp2_with (first
      | (go_at_call 62; refine (length_len _ _ hlen).mono ?_; rintro e w' ⟨rfl, rfl⟩)
      | (go_at_call 97; refine hcall.mono ?_; rintro e w' ⟨rfl, rfl⟩))
    go_ret
    exact ⟨ret_int (by rw [HB2.out]; simp), Below.refl _ _⟩
end Go.Proofs.Ytkdclocjijmgpaa.Nt
/-
  The walks of divide, rest, DivMod: any quotient and rest (the long division's own walk is handed in as a hypothesis: LongOK).
-/
namespace Go.Proofs.Ytkdclocjijmgpaa.Nt
open Go.RowKit

/-- Quotient and rest as two results. -/
def QR (B : Nat) (w : World) (e : Ending) (x y : Int) : Prop := ∃ q r, e = .returned (.tuple #[q, r]) ∧ Own B w q (lim (x / y).toNat) ∧ Own B w r (lim (x % y).toNat)

/-- The long division keeps its promise. -/
def LongOK : Prop := ∀ (X Y : List Int) (v u : Value) (w : World), Sl .u32 w v X → Sl .u32 w u Y → U32s X → U32s Y → sig X = X.length → sig Y = Y.length → 2 ≤ Y.length → val Y ≤ val X → X.length ≤ 1073741824 →
    Calls Try.prog 103 #[v, u] w fun e w' => QR w.heap.size w' e (val X) (val Y) ∧ Below w.heap.size w w'

set_option maxHeartbeats 1000000 in
theorem divide_any (X Y : List Int) (v u : Value) (w : World) (hX : Sl .u32 w v X) (hY : Sl .u32 w u Y) (uX : U32s X) (uY : U32s Y) (sX : sig X = X.length) (sY : sig Y = Y.length) (h0 : Y ≠ []) (lX : X.length ≤ 1073741824) (lY : Y.length ≤ 1073741824)
    (H : Y.length = 1 ∨ LongOK) :
    Calls Try.prog 96 #[v, u] w fun e w' => QR w.heap.size w' e (val X) (val Y) ∧ Below w.heap.size w w' := by
  have hY0 : 0 < Y.length := by cases Y <;> simp at *
  obtain ⟨a1, c1, rfl, _⟩ := hX.len
  obtain ⟨a2, c2, rfl, hc2, hYr⟩ := id hY
  have nX := val_nonneg uX
  by_cases hlt : val X < val Y
  · have hc : cmpI (val X) (val Y) = -1 := by unfold cmpI; rw [if_pos hlt]
    have HE : Hid (val X / val Y = 0 ∧ val X % val Y = val X) := ⟨Int.ediv_eq_zero_of_lt nX hlt, Int.emod_eq_of_lt nX hlt⟩
    clear hlt
    go_enter Try.func96, Try.ntmps96
    go_wp2_with (first
      | (go_at_call 63; refine (Cmp_sl _ _ X Y hX hY uX uY (by omega) (by omega) _ hc).mono ?_; rintro e w1 ⟨rfl, hB⟩; have hX1 := below_sl hB hX)
      | (go_at_call 33; refine (Trim_any X _ _ hX1 uX (by omega)).mono ?_; rintro e w2 ⟨r, rfl, hr, hB2⟩))
    go_ret2
    obtain ⟨e1, e2⟩ := HE.out
    refine ⟨⟨_, _, rfl, ?_, ?_⟩, hB.trans (hB2.mono hB.size)⟩
    · rw [e1]; exact .inl ⟨rfl, by simp [lim_zero]⟩
    · rw [e2]; exact hr.mono hB.size
  · obtain ⟨c, hc, hc0⟩ : ∃ c, cmpI (val X) (val Y) = c ∧ 0 ≤ c := by
      unfold cmpI; rw [if_neg hlt]; split
      · exact ⟨1, rfl, by decide⟩
      · exact ⟨0, rfl, by decide⟩
    by_cases h1 : Y.length = 1
    · obtain ⟨y, rfl⟩ : ∃ y, Y = [y] := by
        match Y, h1 with
        | [y], _ => exact ⟨y, rfl⟩
      have uy : U32 y := uY.head
      have hy0 : y ≠ 0 := by intro h; subst h; simp [sig] at sY
      have hvy : val [y] = y := by simp [val]
      rcases hYr with hYr | ⟨b, o, rfl, hb, hr⟩
      · simp at hYr
      have hcell := hr 0 (by simp)
      simp at hcell
      have HE : Hid (val [y] = y) := hvy
      obtain ⟨u1, u2⟩ := uy
      have hy1 : 0 < y := by omega
      clear hlt hr hvy sY h1
      simp only [List.length_cons, List.length_nil] at hY hc2 ⊢
      go_enter Try.func96, Try.ntmps96
      go_wp2_with (first
        | (go_at_call 63; refine (Cmp_sl _ _ X [y] hX hY uX uY (by omega) (by simp) _ hc).mono ?_; rintro e w1 ⟨rfl, hB⟩; have hX1 := below_sl hB hX; have hcell1 := (hB.cell (p := ⟨b, o, none⟩) hb).trans hcell)
        | (go_at_call 102; refine (divideByLimb_any X y _ _ hX1 uX hy1 u2 (by omega)).mono ?_; rintro e w2 ⟨q, r, rfl, hq, hr, hB2⟩))
      go_ret2
      rw [HE.out]
      exact ⟨⟨_, _, rfl, hq.mono hB.size, hr.mono hB.size⟩, hB.trans (hB2.mono hB.size)⟩
    · have H2 : LongOK := by rcases H with h | h; exact absurd h h1; exact h
      have HH : Hid (LongOK ∧ val Y ≤ val X) := ⟨H2, by omega⟩
      have hY2 : 2 ≤ Y.length := by omega
      clear hlt H H2 hYr
      go_enter Try.func96, Try.ntmps96
      go_wp2_with (first
        | (go_at_call 63; refine (Cmp_sl _ _ X Y hX hY uX uY (by omega) (by omega) _ hc).mono ?_; rintro e w1 ⟨rfl, hB⟩; have hX1 := below_sl hB hX; have hY1 := below_sl hB hY)
        | (go_at_call 103; refine (HH.out.1 X Y _ _ _ hX1 hY1 uX uY sX sY hY2 HH.out.2 lX).mono ?_; rintro e w2 ⟨⟨q, r, rfl, hq, hr⟩, hB2⟩))
      go_ret2
      exact ⟨⟨_, _, rfl, hq.mono hB.size, hr.mono hB.size⟩, hB.trans (hB2.mono hB.size)⟩

set_option maxHeartbeats 400000 in
theorem rest_any (X Y : List Int) (v u : Value) (w : World) (hX : Sl .u32 w v X) (hY : Sl .u32 w u Y) (uX : U32s X) (uY : U32s Y) (sX : sig X = X.length) (sY : sig Y = Y.length) (h0 : Y ≠ []) (lX : X.length ≤ 1073741824) (lY : Y.length ≤ 1073741824)
    (H : Y.length = 1 ∨ LongOK) :
    Calls Try.prog 98 #[v, u] w fun e w' => ∃ r, e = .returned r ∧ Own w.heap.size w' r (lim (val X % val Y).toNat) ∧ Below w.heap.size w w' := by
  go_enter Try.func98, Try.ntmps98
  go_wp2_with (go_at_call 96; refine (divide_any X Y v u w hX hY uX uY sX sY h0 lX lY H).mono ?_; rintro e w2 ⟨⟨q, r, rfl, hq, hr⟩, hB2⟩)
  go_ret
  exact ⟨_, rfl, hr, hB2⟩

/-- Three results: quotient, rest, error. -/
def divS (X Y : List Int) : List Int × List Int × Int := if 512 < X.length ∨ 512 < Y.length then ([], [], 3) else if val Y = 0 then ([], [], 11) else (lim (val X / val Y).toNat, lim (val X % val Y).toNat, 0)
def Three (B : Nat) (w : World) (e : Ending) (s : List Int × List Int × Int) : Prop := ∃ q r, e = .returned (.tuple #[q, r, .int .i64 s.2.2]) ∧ Own B w q s.1 ∧ Own B w r s.2.1
theorem Three.nil' {B : Nat} {w : World} {n : Int} {s : List Int × List Int × Int} (hs : s = ([], [], n)) : Three B w (.returned (.tuple #[.slice none 0 0, .slice none 0 0, .int .i64 n])) s := by
  subst hs; exact ⟨_, _, rfl, .inl ⟨rfl, rfl⟩, .inl ⟨rfl, rfl⟩⟩
theorem Three.mk' {B : Nat} {w : World} {q r : Value} {n : Int} {L M : List Int} {s : List Int × List Int × Int} (h : Own B w q L) (h' : Own B w r M) (hs : s = (L, M, n)) : Three B w (.returned (.tuple #[q, r, .int .i64 n])) s := by
  subst hs; exact ⟨_, _, rfl, h, h'⟩

set_option maxHeartbeats 1000000 in
theorem DivMod_any (X Y : List Int) (v u : Value) (w : World) (hX : Sl .u32 w v X) (hY : Sl .u32 w u Y) (uX : U32s X) (uY : U32s Y) (H : sig Y ≤ 1 ∨ LongOK) :
    Calls Try.prog 72 #[v, u] w fun e w' => Three w.heap.size w' e (divS X Y) ∧ Below w.heap.size w w' := by
  by_cases hlong : 512 < X.length ∨ 512 < Y.length
  · have hb : (decide (512 < X.length) || decide (512 < Y.length)) = true := by simpa using hlong
    have HL : Hid (512 < X.length ∨ 512 < Y.length) := hlong
    clear hlong
    go_enter Try.func72, Try.ntmps72
    go_wp2_with (go_at_call 80; refine (tooLong_sl v u X Y hX hY true hb).mono ?_; rintro e w' ⟨rfl, rfl⟩)
    go_ret3
    exact ⟨Three.nil' (by unfold divS; rw [if_pos HL.out]), Below.refl _ _⟩
  have hb : (decide (512 < X.length) || decide (512 < Y.length)) = false := by simpa using hlong
  have lX : X.length ≤ 1152921504606846976 := by omega
  have lY : Y.length ≤ 1152921504606846976 := by omega
  have HL : Hid (¬ (512 < X.length ∨ 512 < Y.length)) := hlong
  by_cases hz : sig Y = 0
  · have hlen : Len w u 0 := ⟨Y, hY, lY, hz⟩
    have HZ : Hid (val Y = 0) := val_of_sig0 hz
    clear hlong hz
    go_enter Try.func72, Try.ntmps72
    go_wp2_with (first
      | (go_at_call 80; refine (tooLong_sl v u X Y hX hY false hb).mono ?_; rintro e w' ⟨rfl, rfl⟩)
      | (go_at_call 62; refine (length_len _ _ hlen).mono ?_; rintro e w' ⟨rfl, rfl⟩))
    go_ret3
    exact ⟨Three.nil' (by unfold divS; rw [if_neg HL.out, if_pos HZ.out]), Below.refl _ _⟩
  · obtain ⟨m, hm⟩ : ∃ m, sig Y = m + 1 := ⟨sig Y - 1, by omega⟩
    have hlen : Len w u (m + 1) := ⟨Y, hY, lY, hm⟩
    have HZ : Hid (¬ val Y = 0) := fun h => hz (sig0_of_val uY h)
    have uX' := trim_u32 uX
    have uY' := trim_u32 uY
    have lX' : (trim X).length ≤ 1073741824 := by have := sig_le X; rw [trim_len]; omega
    have lY' : (trim Y).length ≤ 1073741824 := by have := sig_le Y; rw [trim_len]; omega
    have hne : trim Y ≠ [] := by intro h; have := trim_len Y; rw [h] at this; simp at this; omega
    have H2 : (trim Y).length = 1 ∨ LongOK := by rw [trim_len]; rcases H with h | h; exact .inl (by omega); exact .inr h
    have HH : Hid ((trim Y).length = 1 ∨ LongOK) := H2
    clear hlong hz hm H H2
    go_enter Try.func72, Try.ntmps72
    go_wp2_with (first
      | (go_at_call 80; refine (tooLong_sl v u X Y hX hY false hb).mono ?_; rintro e w' ⟨rfl, rfl⟩)
      | (go_at_call 62; refine (length_len _ _ hlen).mono ?_; rintro e w' ⟨rfl, rfl⟩)
      | (go_at_call 77; refine (cut_sl _ _ (by assumption) (by assumption)).mono ?_; rintro e w' ⟨r, rfl, hr, rfl⟩)
      | (go_at_call 96; refine (divide_any (trim X) (trim Y) _ _ _ (by assumption) (by assumption) uX' uY' (trim_sig X) (trim_sig Y) hne lX' lY' HH.out).mono ?_; rintro e w2 ⟨⟨q, r, rfl, hq, hr⟩, hB2⟩))
    go_ret3
    rw [trim_val, trim_val] at hq hr
    exact ⟨Three.mk' hq hr (by unfold divS; rw [if_neg HL.out, if_neg HZ.out]), hB2⟩
end Go.Proofs.Ytkdclocjijmgpaa.Nt
/-
  Numbers by their values: the contracts above, said of values alone; the walks of hasBit, power, ExpMod.
-/
namespace Go.Proofs.Ytkdclocjijmgpaa.Nt
open Go.RowKit

/-- The slice v reads the number N (no limb 0 at its end), of at most k limbs. -/
def Num (k : Nat) (w : World) (v : Value) (N : Int) : Prop := 0 ≤ N ∧ N < 4294967296 ^ k ∧ Sl .u32 w v (lim N.toNat)
theorem Num.len {k : Nat} {w : World} {v : Value} {N : Int} (h : Num k w v N) : (lim N.toNat).length ≤ k := lim_len_le (by rw [Int.toNat_of_nonneg h.1]; exact h.2.1)
theorem Num.val {k : Nat} {w : World} {v : Value} {N : Int} (h : Num k w v N) : Go.Proofs.Ytkdclocjijmgpaa.val (lim N.toNat) = N := by rw [val_lim, Int.toNat_of_nonneg h.1]
theorem Num.below {k : Nat} {w w' : World} {v : Value} {N : Int} (h : Num k w v N) (hb : Below w.heap.size w w') : Num k w' v N := ⟨h.1, h.2.1, below_sl hb h.2.2⟩
theorem Num.of_own {k B : Nat} {w : World} {v : Value} {N : Int} (h : Own B w v (lim N.toNat)) (h0 : 0 ≤ N) (h1 : N < 4294967296 ^ k) : Num k w v N := ⟨h0, h1, h.sl⟩
theorem Num.of_trim {w : World} {v : Value} {X : List Int} (h : Sl .u32 w v (trim X)) (uX : U32s X) : Num X.length w v (Go.Proofs.Ytkdclocjijmgpaa.val X) := by
  refine ⟨val_nonneg uX, val_lt uX, ?_⟩
  rw [← take_sig_lim uX]; exact h
theorem Num.mono {k k' : Nat} {w : World} {v : Value} {N : Int} (h : Num k w v N) (hk : k ≤ k') : Num k' w v N := ⟨h.1, Int.lt_of_lt_of_le h.2.1 (pow_mono hk), h.2.2⟩
theorem lim_nil {n : Nat} (h : lim n = []) : n = 0 := by have := val_lim n; rw [h] at this; simp [Go.Proofs.Ytkdclocjijmgpaa.val] at this; omega
theorem lim_len_one {N : Int} (h0 : 0 < N) (h1 : N < 4294967296) : (lim N.toNat).length = 1 := by
  rw [lim_pos (by omega)]
  have : N.toNat / 4294967296 = 0 := by omega
  rw [this, lim_zero]; rfl

theorem product_num {k j : Nat} {w : World} (v u : Value) (x y : Int) (hx : Num k w v x) (hy : Num j w u y) (hk : k ≤ 1073741824) (hj : j ≤ 1073741824) :
    Calls Try.prog 99 #[v, u] w fun e w' => ∃ r, e = .returned r ∧ Own w.heap.size w' r (lim (x * y).toNat) ∧ Num (k + j) w' r (x * y) ∧ Below w.heap.size w w' := by
  have lx := hx.len; have ly := hy.len
  refine (product_any _ _ v u w hx.2.2 hy.2.2 (lim_u32 _) (lim_u32 _) (by omega) (by omega)).mono ?_
  rintro e w' ⟨r, rfl, hr, hB⟩
  rw [hx.val, hy.val] at hr
  refine ⟨r, rfl, hr, Num.of_own hr (Int.mul_nonneg hx.1 hy.1) ?_, hB⟩
  rw [Int.pow_add]
  calc x * y ≤ x * 4294967296 ^ j := Int.mul_le_mul_of_nonneg_left (Int.le_of_lt hy.2.1) hx.1
    _ < 4294967296 ^ k * 4294967296 ^ j := Int.mul_lt_mul_of_pos_right hx.2.1 (pow_pos32 j)

theorem rest_num {k j : Nat} {w : World} (v u : Value) (x y : Int) (hx : Num k w v x) (hy : Num j w u y) (hk : k ≤ 1073741824) (hj : j ≤ 1073741824) (h0 : 0 < y) (H : y < 4294967296 ∨ LongOK) :
    Calls Try.prog 98 #[v, u] w fun e w' => ∃ r, e = .returned r ∧ Own w.heap.size w' r (lim (x % y).toNat) ∧ Num j w' r (x % y) ∧ Below w.heap.size w w' := by
  have lx := hx.len; have ly := hy.len
  refine (rest_any _ _ v u w hx.2.2 hy.2.2 (lim_u32 _) (lim_u32 _) (sig_lim _) (sig_lim _) (fun h => by have := lim_nil h; omega) (by omega) (by omega) ?_).mono ?_
  · rcases H with h | h
    · exact .inl (lim_len_one h0 h)
    · exact .inr h
  rintro e w' ⟨r, rfl, hr, hB⟩
  rw [hx.val, hy.val] at hr
  have h1 := Int.emod_nonneg x (b := y) (by omega); have h2 := Int.emod_lt_of_pos x h0
  exact ⟨r, rfl, hr, Num.of_own hr h1 (Int.lt_trans h2 hy.2.1), hB⟩

theorem divide_num {k j : Nat} {w : World} (v u : Value) (x y : Int) (hx : Num k w v x) (hy : Num j w u y) (hk : k ≤ 1073741824) (hj : j ≤ 1073741824) (h0 : 0 < y) (H : y < 4294967296 ∨ LongOK) :
    Calls Try.prog 96 #[v, u] w fun e w' => ∃ q r, e = .returned (.tuple #[q, r]) ∧ Own w.heap.size w' q (lim (x / y).toNat) ∧ Own w.heap.size w' r (lim (x % y).toNat) ∧ Num k w' q (x / y) ∧ Num j w' r (x % y) ∧ Below w.heap.size w w' := by
  have lx := hx.len; have ly := hy.len
  refine (divide_any _ _ v u w hx.2.2 hy.2.2 (lim_u32 _) (lim_u32 _) (sig_lim _) (sig_lim _) (fun h => by have := lim_nil h; omega) (by omega) (by omega) ?_).mono ?_
  · rcases H with h | h
    · exact .inl (lim_len_one h0 h)
    · exact .inr h
  rintro e w' ⟨⟨q, r, rfl, hq, hr⟩, hB⟩
  rw [hx.val, hy.val] at hr hq
  have h1 := Int.emod_nonneg x (b := y) (by omega); have h2 := Int.emod_lt_of_pos x h0
  have h3 := Int.ediv_nonneg hx.1 (Int.le_of_lt h0); have h4 : x / y ≤ x := Int.ediv_le_self _ hx.1
  exact ⟨q, r, rfl, hq, hr, Num.of_own hq h3 (Int.lt_of_le_of_lt h4 hx.2.1), Num.of_own hr h1 (Int.lt_trans h2 hy.2.1), hB⟩

theorem sum_num {k : Nat} {w : World} (v u : Value) (x y : Int) (hx : Num k w v x) (hy : Num k w u y) (hk : k ≤ 1073741824) :
    Calls Try.prog 92 #[v, u] w fun e w' => ∃ r, e = .returned r ∧ Own w.heap.size w' r (lim (x + y).toNat) ∧ Num (k + 1) w' r (x + y) ∧ Below w.heap.size w w' := by
  have lx := hx.len; have ly := hy.len
  refine (sum_any _ _ v u w hx.2.2 hy.2.2 (lim_u32 _) (lim_u32 _) (by omega) (by omega)).mono ?_
  rintro e w' ⟨r, rfl, hr, hB⟩
  rw [hx.val, hy.val] at hr
  have := hx.1; have := hx.2.1; have := hy.1; have := hy.2.1
  exact ⟨r, rfl, hr, Num.of_own hr (by omega) (by rw [pow_succ32]; omega), hB⟩

theorem difference_num {k j : Nat} {w : World} (v u : Value) (x y : Int) (hx : Num k w v x) (hy : Num j w u y) (hk : k ≤ 1073741824) (hle : y ≤ x) :
    Calls Try.prog 93 #[v, u] w fun e w' => ∃ r, e = .returned r ∧ Own w.heap.size w' r (lim (x - y).toNat) ∧ Num k w' r (x - y) ∧ Below w.heap.size w w' := by
  have lx := hx.len
  have hv : Go.Proofs.Ytkdclocjijmgpaa.val (lim y.toNat) ≤ Go.Proofs.Ytkdclocjijmgpaa.val (lim x.toNat) := by rw [hx.val, hy.val]; exact hle
  have hl := sig_le_of_val (lim_u32 _) (lim_u32 _) hv
  rw [sig_lim, sig_lim] at hl
  refine (difference_any _ _ v u w hx.2.2 hy.2.2 (lim_u32 _) (lim_u32 _) (by omega) hl hv).mono ?_
  rintro e w' ⟨r, rfl, hr, hB⟩
  rw [hx.val, hy.val] at hr
  have := hx.1; have := hx.2.1; have := hy.1
  exact ⟨r, rfl, hr, Num.of_own hr (by omega) (by omega), hB⟩

/-! ### hasBit -/
theorem and1 (x : Int) (h0 : 0 ≤ x) (h1 : x < 4294967296) : bits BinOp.and .u32 x 1 = x % 2 := by go_bits2

theorem getD_div (xs : List Int) (i : Nat) (hu : U32s xs) : (val xs).toNat / 2 ^ (32 * i) % 4294967296 = (xs.getD i 0).toNat := by
  induction i generalizing xs with
  | zero =>
    rw [val_head_tail]
    have h1 := hu.at 0; unfold U32 at h1
    have h2 := val_nonneg hu.tl
    simp only [Nat.mul_zero, Nat.pow_zero, Nat.div_one]; omega
  | succ i ih =>
    have := ih xs.tail hu.tl
    rw [getD_tail] at this
    rw [← this, val_head_tail xs]
    have h1 := hu.at 0; unfold U32 at h1
    have h2 := val_nonneg hu.tl
    rw [Nat.mul_add, Nat.mul_one, Nat.add_comm, Nat.pow_add, ← Nat.div_div_eq_div_mul]
    congr 2; omega

theorem bit_eq (v i : Nat) : v / 2 ^ (32 * (i / 32)) % 4294967296 / 2 ^ (i % 32) % 2 = v / 2 ^ i % 2 := by
  have e : (4294967296 : Nat) = 2 ^ (i % 32) * 2 ^ (32 - i % 32) := by rw [← Nat.pow_add, show i % 32 + (32 - i % 32) = 32 by omega]
  have e2 : i = 32 * (i / 32) + i % 32 := by omega
  rw [e, Nat.mod_mul_right_div_self, Nat.div_div_eq_div_mul, ← Nat.pow_add, ← e2]
  have e3 : 2 ^ (32 - i % 32) = 2 * 2 ^ (31 - i % 32) := by rw [Nat.mul_comm, ← Nat.pow_succ]; congr 1; omega
  rw [e3, Nat.mod_mul_right_mod]

/-! ### power -/
theorem half_step (E n k : Nat) (h : k < n) : E / 2 ^ (n - (k + 1)) = 2 * (E / 2 ^ (n - k)) + E / 2 ^ (n - 1 - k) % 2 := by
  have e : n - k = (n - (k + 1)) + 1 := by omega
  have e2 : n - 1 - k = n - (k + 1) := by omega
  rw [e, e2, Nat.pow_succ, ← Nat.div_div_eq_div_mul]; omega

theorem bitLen_lt {n k : Nat} (h : n < 2 ^ k) : bitLen n ≤ k := by
  have := bitLen_spec n
  apply Classical.byContradiction; intro hc
  by_cases h0 : n = 0
  · subst h0; simp [bitLen] at hc
  · have h2 := this.2 h0
    have h3 : 2 ^ k ≤ 2 ^ (bitLen n - 1) := Nat.pow_le_pow_right (by decide) (by omega)
    omega

end Go.Proofs.Ytkdclocjijmgpaa.Nt
/-
  The walks of ExpMod, euclid, Inverse.
-/
namespace Go.Proofs.Ytkdclocjijmgpaa.Nt
open Go.RowKit

/-- What stands between two rounds of Euclid's: rests r, x; factors f, g; s: the sign of f. -/
structure Euc (A M r x f g s : Int) : Prop where
  x0 : 0 ≤ x
  xr : x < r
  rM : r ≤ M
  f0 : 0 ≤ f
  fg : f ≤ g
  tot : r * g + x * f = M
  c1 : ∃ k, r = s * f * A + M * k
  c2 : ∃ k, x = -(s * g * A) + M * k
  dv : ∀ d : Int, (d ∣ r ∧ d ∣ x) ↔ (d ∣ A ∧ d ∣ M)
  one : M = 1 → f = 0
theorem Euc.start (A : Int) {M : Int} (hM : 0 < M) : Euc A M M (A % M) 0 1 (-1) where
  x0 := Int.emod_nonneg _ (by omega)
  xr := Int.emod_lt_of_pos _ hM
  rM := Int.le_refl _
  f0 := Int.le_refl _
  fg := by decide
  tot := by simp
  c1 := ⟨1, by simp⟩
  c2 := ⟨-(A / M), by have := Int.mul_ediv_add_emod A M; have e : M * -(A / M) = -(M * (A / M)) := Int.mul_neg _ _; rw [e]; omega⟩
  dv := fun d => by
    have h := Int.mul_ediv_add_emod A M
    constructor
    · rintro ⟨h1, h2⟩
      exact ⟨by rw [← h]; exact Int.dvd_add (Int.dvd_trans h1 (Int.dvd_mul_right _ _)) h2, h1⟩
    · rintro ⟨h1, h2⟩
      refine ⟨h2, ?_⟩
      have e : A % M = A - M * (A / M) := by omega
      rw [e]; exact Int.dvd_sub h1 (Int.dvd_trans h2 (Int.dvd_mul_right _ _))
  one := fun _ => rfl
theorem Euc.step {A M r x f g s : Int} (h : Euc A M r x f g s) (hx : 0 < x) : Euc A M x (r % x) g (f + r / x * g) (-s) := by
  have hq := Int.mul_ediv_add_emod r x
  obtain ⟨q, hqe⟩ : ∃ q, r / x = q := ⟨_, rfl⟩
  obtain ⟨y, hye⟩ : ∃ y, r % x = y := ⟨_, rfl⟩
  have hy0 : 0 ≤ y := by rw [← hye]; exact Int.emod_nonneg _ (by omega)
  have hy1 : y < x := by rw [← hye]; exact Int.emod_lt_of_pos _ hx
  have hq1 : 1 ≤ q := by rw [← hqe]; exact Int.le_ediv_of_mul_le hx (by have := h.xr; omega)
  rw [hqe, hye] at hq
  rw [hqe, hye]
  have g0 : 0 ≤ g := Int.le_trans h.f0 h.fg
  have hfg := h.fg; have hf0 := h.f0
  have hgq : g ≤ q * g := by
    calc g = 1 * g := (Int.one_mul g).symm
      _ ≤ q * g := Int.mul_le_mul_of_nonneg_right hq1 g0
  refine ⟨hy0, hy1, by have := h.xr; have := h.rM; omega, g0, by omega, ?_, ?_, ?_, fun d => ?_, fun h1 => ?_⟩
  · have := h.tot
    grind
  · obtain ⟨k, hk⟩ := h.c2
    exact ⟨k, by rw [hk]; grind⟩
  · obtain ⟨k, hk⟩ := h.c1
    obtain ⟨j, hj⟩ := h.c2
    refine ⟨k - q * j, ?_⟩
    have : y = r - x * q := by omega
    rw [this, hk, hj]; grind
  · rw [← h.dv d]
    constructor
    · rintro ⟨h1, h2⟩
      exact ⟨by rw [← hq]; exact Int.dvd_add (Int.dvd_trans h1 (Int.dvd_mul_right _ _)) h2, h1⟩
    · rintro ⟨h1, h2⟩
      refine ⟨h2, ?_⟩
      have e : y = r - x * q := by omega
      rw [e]; exact Int.dvd_sub h1 (Int.dvd_trans h2 (Int.dvd_mul_right _ _))
  · have := h.xr; have := h.rM; omega
theorem Euc.gM {A M r x f g s : Int} (h : Euc A M r x f g s) : g ≤ M := by
  have h1 := h.tot; have h2 := h.x0; have h3 := h.xr; have h4 := h.f0; have h5 := h.fg
  have h6 : 0 ≤ x * f := Int.mul_nonneg h2 h4
  have h7 : 1 * g ≤ r * g := Int.mul_le_mul_of_nonneg_right (by omega) (by omega)
  omega
/-- What Euclid's rounds end with. -/
def Bez (A M D G : Int) : Prop := 0 < D ∧ 0 ≤ G ∧ G ≤ M ∧ (∀ d : Int, d ∣ D ↔ (d ∣ A ∧ d ∣ M)) ∧ (∃ t, A * G = D + M * t) ∧ (M = 1 → G = 0)
theorem Euc.last {A M r f g s : Int} (h : Euc A M r 0 f g s) (hs : s = 1) : Bez A M r f := by
  subst hs
  have := h.xr; have := h.gM; have h5 := h.fg
  refine ⟨by omega, h.f0, by omega, fun d => ?_, ?_, h.one⟩
  · rw [← h.dv d]; exact ⟨fun h => ⟨h, Int.dvd_zero d⟩, fun h => h.1⟩
  · obtain ⟨k, hk⟩ := h.c1; exact ⟨-k, by rw [hk]; grind⟩
theorem Euc.last0 {A M r g s : Int} (h : Euc A M r 0 0 g s) : Bez A M r 0 := by
  have := h.xr; have := h.gM; have h5 := h.fg; have := h.rM
  refine ⟨by omega, h.f0, by omega, fun d => ?_, ?_, h.one⟩
  · rw [← h.dv d]; exact ⟨fun h => ⟨h, Int.dvd_zero d⟩, fun h => h.1⟩
  · obtain ⟨k, hk⟩ := h.c1; exact ⟨-k, by rw [hk]; grind⟩
theorem Euc.lastN {A M r f g s : Int} (h : Euc A M r 0 f g s) (hs : s = -1) (hf : 0 < f) : Bez A M r (M - f) := by
  subst hs
  have := h.xr; have := h.gM; have h5 := h.fg; have := h.rM
  refine ⟨by omega, by omega, by omega, fun d => ?_, ?_, fun h1 => by have := h.one h1; omega⟩
  · rw [← h.dv d]; exact ⟨fun h => ⟨h, Int.dvd_zero d⟩, fun h => h.1⟩
  · obtain ⟨k, hk⟩ := h.c1; exact ⟨A - k, by rw [hk]; grind⟩

theorem len_pos {n : Int} (h : 0 < n) : 0 < (lim n.toNat).length := by rw [lim_pos (by omega)]; simp
def sgn (b : Bool) : Int := if b then -1 else 1

theorem Trim_num {k : Nat} {w : World} (v : Value) (x : Int) (hx : Num k w v x) (hk : k ≤ 1073741824) :
    Calls Try.prog 33 #[v] w fun e w' => ∃ r, e = .returned r ∧ Own w.heap.size w' r (lim x.toNat) ∧ Num k w' r x ∧ Below w.heap.size w w' := by
  have lx := hx.len
  refine (Trim_any _ v w hx.2.2 (lim_u32 _) (by omega)).mono ?_
  rintro e w' ⟨r, rfl, hr, hB⟩
  rw [hx.val] at hr
  exact ⟨r, rfl, hr, Num.of_own hr hx.1 hx.2.1, hB⟩
theorem Small_num {w : World} (x : Int) (h0 : 0 ≤ x) (h1 : x < 4294967296) :
    Calls Try.prog 53 #[.int .u64 x] w fun e w' => ∃ r, e = .returned r ∧ Own w.heap.size w' r (lim x.toNat) ∧ Num 1 w' r x ∧ Below w.heap.size w w' := by
  refine (Small_any x h0 (by omega) w).mono ?_
  rintro e w' ⟨r, rfl, hr, hB⟩
  exact ⟨r, rfl, hr, Num.of_own hr h0 (by simpa using h1), hB⟩

set_option maxHeartbeats 2000000 in
theorem euclid_any (a m : Value) (A M : Int) (w : World) (ha : Num 1024 w a A) (hm : Num 1024 w m M) (h0 : 0 < M) (H : M < 4294967296 ∨ LongOK) :
    Calls Try.prog 81 #[a, m] w fun e w' => ∃ d g D G, e = .returned (.tuple #[d, g]) ∧ Bez A M D G ∧ Own w.heap.size w' d (lim D.toNat) ∧ Own w.heap.size w' g (lim G.toNat) ∧ Num 1024 w' d D ∧ Below w.heap.size w w' := by
  have HL : Hid (M < 4294967296 ∨ LongOK) := H
  have HA : Hid (0 ≤ A ∧ M < 4294967296 ^ 1024) := ⟨ha.1, hm.2.1⟩
  have hBt : Below w.heap.size w w := Below.refl _ _
  clear H
  go_enter Try.func81, Try.ntmps81
  go_wp2_with (first
    | (go_at_call 33; refine (Trim_num _ _ hm (by omega)).mono ?_; rintro e w' ⟨r1, rfl, hO1, hn1, hB⟩; replace hm := hm.below hB; replace ha := ha.below hB; replace hBt := hBt.trans (hB.mono hBt.size))
    | (go_at_call 98; refine (rest_num _ _ _ _ ha hm (by omega) (by omega) h0 HL.out).mono ?_; rintro e w' ⟨r2, rfl, hO2, hn2, hB⟩; replace hm := hm.below hB; replace hn1 := hn1.below hB; replace hO1 := hO1.below hB; replace hO2 := hO2.mono hBt.size; replace hBt := hBt.trans (hB.mono hBt.size))
    | (go_at_call 53; replace hn3 := hn3; refine (Small_num _ (by decide) (by decide)).mono ?_; rintro e w' ⟨r4, rfl, hO4, hn4, hB⟩; replace hm := hm.below hB; replace hn1 := hn1.below hB; replace hO1 := hO1.below hB; replace hn2 := hn2.below hB; replace hO2 := hO2.below hB; replace hn3 := hn3.below hB; replace hO3 := hO3.below hB; replace hO4 := hO4.mono hBt.size; replace hBt := hBt.trans (hB.mono hBt.size))
    | (go_at_call 53; refine (Small_num _ (by decide) (by decide)).mono ?_; rintro e w' ⟨r3, rfl, hO3, hn3, hB⟩; replace hm := hm.below hB; replace hn1 := hn1.below hB; replace hO1 := hO1.below hB; replace hn2 := hn2.below hB; replace hO2 := hO2.below hB; replace hO3 := hO3.mono hBt.size; replace hBt := hBt.trans (hB.mono hBt.size)))
  go_loopg [6, 7, 8, 9, 10] (A % M).toNat (fun gh rv xv fv gv nv wr => ∃ (r x f g : Int) (b : Bool), nv = .bool b ∧ gh = x.toNat ∧ Hid (Euc A M r x f g (sgn b)) ∧ Own w.heap.size wr rv (lim r.toNat) ∧ Num 1024 wr rv r ∧ Own w.heap.size wr xv (lim x.toNat) ∧ Num 1024 wr xv x ∧ Own w.heap.size wr fv (lim f.toNat) ∧ Num 1024 wr fv f ∧ Own w.heap.size wr gv (lim g.toNat) ∧ Num 1024 wr gv g ∧ Num 1024 wr m M ∧ Below w.heap.size w wr)
  case atStart => exact ⟨M, A % M, 0, 1, true, rfl, rfl, Euc.start A h0, hO1, hn1, hO2, hn2, hO3, hn3.mono (by decide), hO4, hn4.mono (by decide), hm, hBt⟩
  case round =>
    clear hO1 hn1 hO2 hn2 hO3 hn3 hO4 hn4 hm hBt ha
    obtain ⟨r, x, f, g, b, rfl, hgk, HE, hOr, hr, hOx, hx, hOf, hf, hOg, hg, hm, hBt⟩ := hrel
    obtain ⟨ax, cx, hvx⟩ := hOx.ne
    obtain ⟨af, cf, hvf⟩ := hOf.ne
    by_cases hx0 : x = 0
    · subst hx0
      have hlen : (lim (Int.toNat 0)).length = 0 := by simp [lim_zero]
      rw [hlen] at hvx
      subst hvx
      cases b with
      | false =>
        have HR : Hid (Bez A M r f ∧ Own w.heap.size wr u6 (lim r.toNat) ∧ Own w.heap.size wr u8 (lim f.toNat) ∧ Num 1024 wr u6 r) := ⟨HE.out.last rfl, hOr, hOf, hr⟩
        clear HE hgk hOx hx hOg hg hOr hOf hvf
        go_wp2
        go_ret2
        obtain ⟨h1, h2, h3, h4⟩ := HR.out
        exact ⟨_, _, r, f, rfl, h1, h2, h3, h4, hBt⟩
      | true =>
        by_cases hf0 : f = 0
        · subst hf0
          rw [hlen] at hvf
          have HR : Hid (Bez A M r 0 ∧ Own w.heap.size wr u6 (lim r.toNat) ∧ Own w.heap.size wr u8 (lim (Int.toNat 0)) ∧ Num 1024 wr u6 r) := ⟨HE.out.last0, hOr, hOf, hr⟩
          subst hvf
          clear HE hgk hOx hx hOg hg hOr hOf hlen
          go_wp2
          go_ret2
          obtain ⟨h1, h2, h3, h4⟩ := HR.out
          exact ⟨_, _, r, 0, rfl, h1, h2, h3, h4, hBt⟩
        · have hf1 : 0 < f := by have := hf.1; omega
          have hlf := len_pos hf1
          have hfM : f ≤ M := Int.le_trans HE.out.fg HE.out.gM
          have HR : Hid (Bez A M r (M - f) ∧ Own w.heap.size wr u6 (lim r.toNat) ∧ Num 1024 wr u6 r) := ⟨HE.out.lastN rfl hf1, hOr, hr⟩
          subst hvf
          clear HE hgk hOx hx hOg hg hOr hOf hlen hr
          go_wp2_with (go_at_call 93; refine (difference_num _ _ _ _ hm hf (by omega) hfM).mono ?_; rintro e w' ⟨rd, rfl, hOd, hnd, hB⟩)
          go_ret2
          obtain ⟨h1, h2, h4⟩ := HR.out
          exact ⟨_, _, r, M - f, rfl, h1, h2.below hB, hOd.mono hBt.size, h4.below hB, hBt.trans (hB.mono hBt.size)⟩
    · have hx1 : 0 < x := by have := hx.1; omega
      have hstep := HE.out.step hx1
      have hlen := len_pos hx1
      have HX : Hid (x < 4294967296 ∨ LongOK) := by
        have h1 := HE.out.xr; have h2 := HE.out.rM
        rcases HL.out with h | h
        · exact .inl (by omega)
        · exact .inr h
      have hf0 := hf.1; have hg0 := hg.1
      have HS : Hid (Euc A M x (r % x) g (f + r / x * g) (-sgn b) ∧ gk = x.toNat ∧ r % x < x ∧ 0 ≤ r % x ∧ 0 ≤ f + r / x * g ∧ f + r / x * g < 4294967296 ^ 1024) :=
        ⟨hstep, hgk, Int.emod_lt_of_pos _ hx1, Int.emod_nonneg _ (by omega), by have := hstep.fg; have := hstep.f0; omega, Int.lt_of_le_of_lt hstep.gM HA.out.2⟩
      have HOx : Hid (Own w.heap.size wr u7 (lim x.toNat)) := hOx
      have hf2 := hf.mono (k' := 1024 + 1024) (by decide)
      subst hvx
      clear HE hgk hstep hvf hOr hOf hf hx0 hOx
      go_wp2_with (first
        | (go_at_call 96; refine (divide_num _ _ _ _ hr hx (by omega) (by omega) hx1 HX.out).mono ?_; rintro e w' ⟨q, l, rfl, hOq, hOl, hq, hl, hB⟩; replace hm := hm.below hB; replace hx := hx.below hB; replace hf2 := hf2.below hB; replace hg := hg.below hB; replace hOg := hOg.below hB; replace hOl := hOl.mono hBt.size; replace HOx : Hid (Own w.heap.size w' (.slice ax (lim x.toNat).length cx) (lim x.toNat)) := HOx.out.below hB; replace hBt := hBt.trans (hB.mono hBt.size))
        | (go_at_call 99; refine (product_num _ _ _ _ hq hg (by omega) (by omega)).mono ?_; rintro e w' ⟨p, rfl, hOp, hp, hB⟩; replace hm := hm.below hB; replace hx := hx.below hB; replace hf2 := hf2.below hB; replace hg := hg.below hB; replace hOg := hOg.below hB; replace hOl := hOl.below hB; replace hl := hl.below hB; replace HOx : Hid (Own w.heap.size w' (.slice ax (lim x.toNat).length cx) (lim x.toNat)) := HOx.out.below hB; replace hBt := hBt.trans (hB.mono hBt.size))
        | (go_at_call 92; refine (sum_num _ _ _ _ hf2 hp (by omega)).mono ?_; rintro e w' ⟨s, rfl, hOs, hs, hB⟩; replace hm := hm.below hB; replace hx := hx.below hB; replace hg := hg.below hB; replace hOg := hOg.below hB; replace hOl := hOl.below hB; replace hl := hl.below hB; replace hOs := hOs.mono hBt.size; replace HOx : Hid (Own w.heap.size w' (.slice ax (lim x.toNat).length cx) (lim x.toNat)) := HOx.out.below hB; replace hBt := hBt.trans (hB.mono hBt.size)))
      go_roundg (r % x).toNat
      case measure => have h := HS.out; omega
      case rel =>
        obtain ⟨h1, h2, h3, h4, h5, h6⟩ := HS.out
        have hsg : -sgn b = sgn (!b) := by cases b <;> rfl
        rw [hsg] at h1
        exact ⟨x, r % x, g, _, !b, rfl, rfl, h1, HOx.out, hx, hOl, hl, hOg, hg, hOs, Num.of_own hOs h5 h6, hm, hBt⟩
end Go.Proofs.Ytkdclocjijmgpaa.Nt
/-
  The walks of ExpMod and Inverse.
-/
namespace Go.Proofs.Ytkdclocjijmgpaa.Nt
open Go.RowKit

/-- What Inverse answers: the inverse, or that there is a common divisor. -/
def InvS (X M : List Int) (s : List Int × Int) : Prop :=
  if 512 < X.length ∨ 512 < M.length then s = ([], 3) else if val M = 0 then s = ([], 11) else
    (∃ G, 0 ≤ G ∧ G < val M ∧ (∃ t, val X * G = 1 + val M * t) ∧ s = (lim G.toNat, 0)) ∨ (∃ D, 1 < D ∧ D ∣ val X ∧ D ∣ val M ∧ s = ([], 5))

theorem Bez.one {A M G : Int} (h : Bez A M 1 G) (_hM : 0 < M) : 0 ≤ G ∧ G < M ∧ ∃ t, A * G = 1 + M * t := by
  obtain ⟨_, h1, h2, _, ⟨t, ht⟩, h3⟩ := h
  by_cases hG : G = M
  · subst hG
    have hd : G ∣ 1 := by
      have e : (1 : Int) = G * (A - t) := by rw [Int.mul_sub]; have := Int.mul_comm A G; omega
      rw [e]; exact Int.dvd_mul_right _ _
    have := Int.le_of_dvd (by decide) hd
    have h1 : G = 1 := by omega
    have h4 := h3 h1
    omega
  · exact ⟨h1, by omega, t, ht⟩

set_option maxHeartbeats 1000000 in
theorem Inverse_any (X M : List Int) (v u : Value) (w : World) (hX : Sl .u32 w v X) (hM : Sl .u32 w u M) (uX : U32s X) (uM : U32s M) (H : val M < 4294967296 ∨ LongOK) :
    Calls Try.prog 48 #[v, u] w fun e w' => ∃ s, InvS X M s ∧ Two w.heap.size w' e s ∧ Below w.heap.size w w' := by
  by_cases hlong : 512 < X.length ∨ 512 < M.length
  · have hb : (decide (512 < X.length) || decide (512 < M.length)) = true := by simpa using hlong
    have HL : Hid (InvS X M ([], 3)) := by unfold InvS; rw [if_pos hlong]; rfl
    clear hlong
    go_enter Try.func48, Try.ntmps48
    go_wp2_with (go_at_call 80; refine (tooLong_sl v u X M hX hM true hb).mono ?_; rintro e w' ⟨rfl, rfl⟩)
    go_ret2
    exact ⟨_, HL.out, Two.nil' rfl, Below.refl _ _⟩
  have hb : (decide (512 < X.length) || decide (512 < M.length)) = false := by simpa using hlong
  have lX : X.length ≤ 1152921504606846976 := by omega
  have lM : M.length ≤ 1152921504606846976 := by omega
  have lX2 : X.length ≤ 1024 := by omega
  have lM2 : M.length ≤ 1024 := by omega
  by_cases hz : sig M = 0
  · have hlen : Len w u 0 := ⟨M, hM, lM, hz⟩
    have HL : Hid (InvS X M ([], 11)) := by unfold InvS; rw [if_neg hlong, if_pos (val_of_sig0 hz)]; rfl
    clear hlong hz
    go_enter Try.func48, Try.ntmps48
    go_wp2_with (first
      | (go_at_call 80; refine (tooLong_sl v u X M hX hM false hb).mono ?_; rintro e w' ⟨rfl, rfl⟩)
      | (go_at_call 62; refine (length_len _ _ hlen).mono ?_; rintro e w' ⟨rfl, rfl⟩))
    go_ret2
    exact ⟨_, HL.out, Two.nil' rfl, Below.refl _ _⟩
  obtain ⟨m, hm⟩ : ∃ m, sig M = m + 1 := ⟨sig M - 1, by omega⟩
  have hlen : Len w u (m + 1) := ⟨M, hM, lM, hm⟩
  have hv0 : ¬ val M = 0 := fun h => hz (sig0_of_val uM h)
  have h0 : 0 < val M := by have := val_nonneg uM; omega
  have HI : Hid (∀ s, InvS X M s ↔ ((∃ G, 0 ≤ G ∧ G < val M ∧ (∃ t, val X * G = 1 + val M * t) ∧ s = (lim G.toNat, 0)) ∨ (∃ D, 1 < D ∧ D ∣ val X ∧ D ∣ val M ∧ s = ([], 5)))) := by
    intro s; unfold InvS; rw [if_neg hlong, if_neg hv0]
  have HL : Hid (val M < 4294967296 ∨ LongOK) := H
  clear hlong hz hm hv0 H
  go_enter Try.func48, Try.ntmps48
  go_wp2_with (first
    | (go_at_call 80; refine (tooLong_sl v u X M hX hM false hb).mono ?_; rintro e w' ⟨rfl, rfl⟩)
    | (go_at_call 62; refine (length_len _ _ hlen).mono ?_; rintro e w' ⟨rfl, rfl⟩)
    | (go_at_call 77; replace hrX := hrX; refine (cut_sl _ _ hM lM).mono ?_; rintro e w' ⟨r, rfl, hrM, rfl⟩)
    | (go_at_call 77; refine (cut_sl _ _ hX lX).mono ?_; rintro e w' ⟨r, rfl, hrX, rfl⟩)
    | (go_at_call 81; refine (euclid_any _ _ _ _ _ ((Num.of_trim hrX uX).mono lX2) ((Num.of_trim hrM uM).mono lM2) h0 HL.out).mono ?_; rintro e w1 ⟨d, g, D, G, rfl, hbez, hOd, hOg, hnd, hB⟩; have HBz : Hid (Bez (val X) (val M) D G) := hbez; clear hbez; obtain ⟨c, hc⟩ : ∃ c, cmpI D 1 = c := ⟨_, rfl⟩)
    | (go_at_call 53; refine (Small_num _ (by decide) (by decide)).mono ?_; rintro e w2 ⟨r1, rfl, hO1, hn1, hB2⟩; replace hnd := hnd.below hB2; replace hOg := hOg.below hB2; replace hB := hB.trans (hB2.mono hB.size))
    | (go_at_call 63; refine (Cmp_sl _ _ _ _ hnd.2.2 hn1.2.2 (lim_u32 _) (lim_u32 _) (by have := hnd.len; omega) (by have := hn1.len; omega) c (by rw [hnd.val, hn1.val]; exact hc)).mono ?_; rintro e w3 ⟨rfl, hB3⟩; replace hOg := hOg.below hB3; replace hB := hB.trans (hB3.mono hB.size)))
  · go_ret2
    refine ⟨([], 5), (HI.out _).2 (.inr ⟨D, ?_, ?_, ?_, rfl⟩), Two.nil' rfl, hB⟩
    · have h1 := HBz.out.1
      have h2 : D ≠ 1 := by
        intro h; subst h
        have h3 : (c != 0) = true := by assumption
        rw [← hc] at h3; simp [cmpI] at h3
      omega
    · exact ((HBz.out.2.2.2.1 D).1 (Int.dvd_refl D)).1
    · exact ((HBz.out.2.2.2.1 D).1 (Int.dvd_refl D)).2
  · go_ret2
    have h3 : (c != 0) = false := by assumption
    have hD : D = 1 := by
      simp at h3
      rw [h3] at hc
      unfold cmpI at hc
      split at hc
      · simp at hc
      · split at hc
        · simp at hc
        · omega
    have hbz := HBz.out
    rw [hD] at hbz
    obtain ⟨g1, g2, g3⟩ := hbz.one h0
    exact ⟨_, (HI.out _).2 (.inl ⟨G, g1, g2, g3, rfl⟩), Two.mk' hOg rfl, hB⟩
end Go.Proofs.Ytkdclocjijmgpaa.Nt
/-
  The walks of FromBytes and Bytes.
-/
namespace Go.Proofs.Ytkdclocjijmgpaa.Nt
open Go.RowKit

def U8 (x : Int) : Prop := 0 ≤ x ∧ x < 256
def U8s (xs : List Int) : Prop := ∀ x ∈ xs, U8 x
theorem U8s.at {xs : List Int} (h : U8s xs) (i : Nat) : U8 (xs.getD i 0) := by
  by_cases hi : i < xs.length
  · simp [hi]; exact h _ (List.getElem_mem hi)
  · simp [List.getD, List.getElem?_eq_none (Nat.le_of_not_lt hi), U8]
theorem U8s.tail {x : Int} {xs : List Int} (h : U8s (x :: xs)) : U8s xs := fun y hy => h y (by simp [hy])
theorem U8s.take {xs : List Int} (h : U8s xs) (n : Nat) : U8s (xs.take n) := fun y hy => h y (List.mem_of_mem_take hy)
end Go.Proofs.Ytkdclocjijmgpaa.Nt
