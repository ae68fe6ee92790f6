/-
  The walks of Len32, Bits.
-/
import Derived.Laws.MathBits
import Derived.Test.YtillkhjihggcjaaGreatDoorK7
namespace Go.Proofs.YtillkhjihggcjaaGreatDoor.Nt
open Go.RowKit

theorem w64 (z : Int) (h0 : 0 ≤ z) (h1 : z < 9223372036854775808) : wrap64 z = z := by unfold wrap64; omega

set_option maxRecDepth 1000000 in
set_option maxHeartbeats 2000000 in
theorem Len32_any (x : Int) (hx : U32 x) (w : World) :
    Calls Tryz.prog 137 #[.int .u32 x] w fun e w' => e = .returned (.int .i64 (bitLen x.toNat)) ∧ w' = w := by
  obtain ⟨h0, h1⟩ := hx
  by_cases g1 : 65536 ≤ x
  · have s1 := bitLen_shift x.toNat 16 (by omega)
    by_cases g2 : 256 ≤ x / 65536
    · have s2 := bitLen_shift (x.toNat / 2 ^ 16) 8 (by omega)
      have e1 : x.toNat / 2 ^ 16 / 2 ^ 8 = (x / 65536 / 256).toNat := by omega
      rw [e1] at s2
      have HS : Hid (bitLen x.toNat = 16 + (8 + bitLen (x / 65536 / 256).toNat)) := by rw [s1, s2]; rfl
      have g3 : x / 65536 / 256 < 256 := by omega
      have g4 : 0 ≤ x / 65536 / 256 := by omega
      have l8 := bitLen_le8 (x / 65536 / 256).toNat (by omega)
      clear s1 s2 e1
      go_enter Tryz.func137, Tryz.ntmps137
      go_wp2
      go_ret
      refine ⟨ret_int ?_, rfl⟩
      rw [HS.out, len8tab_get, w64 (bitLen _) (by omega) (by omega), w64 _ (by omega) (by omega)]; omega
    · have e1 : x.toNat / 2 ^ 16 = (x / 65536).toNat := by omega
      rw [e1] at s1
      have HS : Hid (bitLen x.toNat = 16 + bitLen (x / 65536).toNat) := s1
      have g3 : x / 65536 < 256 := by omega
      have g4 : 0 ≤ x / 65536 := by omega
      have l8 := bitLen_le8 (x / 65536).toNat (by omega)
      clear s1 e1
      go_enter Tryz.func137, Tryz.ntmps137
      go_wp2
      go_ret
      refine ⟨ret_int ?_, rfl⟩
      rw [HS.out, len8tab_get, w64 (bitLen _) (by omega) (by omega), w64 _ (by omega) (by omega)]; omega
  · by_cases g2 : 256 ≤ x
    · have s1 := bitLen_shift x.toNat 8 (by omega)
      have e1 : x.toNat / 2 ^ 8 = (x / 256).toNat := by omega
      rw [e1] at s1
      have HS : Hid (bitLen x.toNat = 8 + bitLen (x / 256).toNat) := s1
      have g3 : x / 256 < 256 := by omega
      have g4 : 0 ≤ x / 256 := by omega
      have l8 := bitLen_le8 (x / 256).toNat (by omega)
      clear s1 e1
      go_enter Tryz.func137, Tryz.ntmps137
      go_wp2
      go_ret
      refine ⟨ret_int ?_, rfl⟩
      rw [HS.out, len8tab_get, w64 (bitLen _) (by omega) (by omega), w64 _ (by omega) (by omega)]; omega
    · have g3 : x < 256 := by omega
      have l8 := bitLen_le8 x.toNat (by omega)
      go_enter Tryz.func137, Tryz.ntmps137
      go_wp2
      go_ret
      refine ⟨ret_int ?_, rfl⟩
      rw [len8tab_get, w64 (bitLen _) (by omega) (by omega), w64 (bitLen _) (by omega) (by omega)]

theorem pow32 (m : Nat) : (4294967296 : Int) ^ m = ((2 ^ (32 * m) : Nat) : Int) := by
  rw [Nat.pow_mul]; simp
theorem top_div {xs : List Int} {m : Nat} (hu : U32s xs) (h : sig xs = m + 1) : (val xs).toNat / 2 ^ (32 * m) = (xs.getD m 0).toNat ∧ (xs.getD m 0).toNat ≠ 0 := by
  have hl := sig_le xs
  have e := val_take_sig xs
  rw [h, val_take_succ _ _ (by omega)] at e
  have h1 := val_nonneg (hu.take m); have h2 := val_lt (hu.take m)
  rw [List.length_take, Nat.min_eq_left (by omega)] at h2
  have h3 := hu.at m
  have h4 := sig_pos hu (by omega : 0 < sig xs)
  rw [h, Nat.add_sub_cancel] at h4
  obtain ⟨t, ht⟩ := Int.eq_ofNat_of_zero_le h1
  obtain ⟨y, hy⟩ := Int.eq_ofNat_of_zero_le h3.1
  rw [hy] at h4 ⊢
  refine ⟨?_, by omega⟩
  rw [ht, hy, pow32] at e
  rw [ht, pow32] at h2
  have e2 : (val xs).toNat = t + 2 ^ (32 * m) * y := by rw [← e]; exact Int.toNat_natCast (t + 2 ^ (32 * m) * y)
  have h5 : t < 2 ^ (32 * m) := by exact_mod_cast h2
  rw [e2, Nat.add_mul_div_left _ _ (by omega), Nat.div_eq_of_lt h5]; simp

set_option maxHeartbeats 1000000 in
theorem Bits_any (xs : List Int) (v : Value) (w : World) (hx : Sl .u32 w v xs) (ux : U32s xs) (lx : xs.length ≤ 36028797018963968) :
    Calls Tryz.prog 118 #[v] w fun e w' => e = .returned (.int .i64 (bitLen (val xs).toNat)) ∧ Below w.heap.size w w' := by
  obtain ⟨a1, c1, rfl, hc1, h1⟩ := id hx
  have hl := sig_le xs
  by_cases h0 : sig xs = 0
  · have hlen : Len w (.slice a1 xs.length c1) 0 := ⟨xs, hx, by omega, h0⟩
    have HB : Hid (bitLen (val xs).toNat = 0) := by rw [val_of_sig0 h0]; rfl
    clear h0
    go_enter Tryz.func118, Tryz.ntmps118
    go_wp2_with (go_at_call 136; refine (length_len _ _ hlen).mono ?_; rintro e w' ⟨rfl, rfl⟩)
    go_ret
    exact ⟨ret_int (by rw [HB.out]; rfl), Below.refl _ _⟩
  · obtain ⟨m, hm⟩ : ∃ m, sig xs = m + 1 := ⟨sig xs - 1, by omega⟩
    have hlen : Len w (.slice a1 xs.length c1) (m + 1) := ⟨xs, hx, by omega, hm⟩
    obtain ⟨ht, ht0⟩ := top_div ux hm
    obtain ⟨y, hy⟩ : ∃ y, xs.getD m 0 = y := ⟨_, rfl⟩
    have uy : U32 y := hy ▸ ux.at m
    rw [hy] at ht ht0
    have hs := bitLen_shift (val xs).toNat (32 * m) (by rw [ht]; exact ht0)
    rw [ht] at hs
    have HB : Hid (bitLen (val xs).toNat = 32 * m + bitLen y.toNat) := hs
    rcases h1 with rfl | ⟨b, o, rfl, hb, hr⟩
    · simp at hl; omega
    have hcy : w.cell? ⟨b, o + m, none⟩ = some (.int .u32 y) := by rw [← hy]; exact hr m (by omega)
    have hb32 : bitLen y.toNat ≤ 32 := by
      have := bitLen_spec y.toNat
      apply Classical.byContradiction; intro hc
      have h2 := this.2 (by omega)
      have h3 : 2 ^ 32 ≤ 2 ^ (bitLen y.toNat - 1) := Nat.pow_le_pow_right (by decide) (by omega)
      obtain ⟨u1, u2⟩ := uy
      omega
    obtain ⟨bl, hbl⟩ : ∃ bl, bitLen y.toNat = bl := ⟨_, rfl⟩
    have hcall := Len32_any y uy w
    rw [hbl] at hb32 hcall
    have HB2 : Hid (bitLen (val xs).toNat = 32 * m + bl) := by rw [← hbl]; exact HB.out
    have hmx : m < xs.length := by omega
    clear hs ht ht0 hr h0 hm hy hx hl HB hbl
    go_enter Tryz.func118, Tryz.ntmps118
    go_wp2_with (first
      | (go_at_call 136; refine (length_len _ _ hlen).mono ?_; rintro e w' ⟨rfl, rfl⟩)
      | (go_at_call 137; refine hcall.mono ?_; rintro e w' ⟨rfl, rfl⟩))
    go_ret
    exact ⟨ret_int (by rw [HB2.out]; simp), Below.refl _ _⟩
end Go.Proofs.YtillkhjihggcjaaGreatDoor.Nt
/-
  The walks of divide, rest, DivMod: any quotient and rest (the long division's own walk is handed in as a hypothesis: LongOK).
-/
namespace Go.Proofs.YtillkhjihggcjaaGreatDoor.Nt
open Go.RowKit

/-- Quotient and rest as two results. -/
def QR (B : Nat) (w : World) (e : Ending) (x y : Int) : Prop := ∃ q r, e = .returned (.tuple #[q, r]) ∧ Own B w q (lim (x / y).toNat) ∧ Own B w r (lim (x % y).toNat)

/-- The long division keeps its promise. -/
def LongOK : Prop := ∀ (X Y : List Int) (v u : Value) (w : World), Sl .u32 w v X → Sl .u32 w u Y → U32s X → U32s Y → sig X = X.length → sig Y = Y.length → 2 ≤ Y.length → val Y ≤ val X → X.length ≤ 1073741824 →
    Calls Tryz.prog 161 #[v, u] w fun e w' => QR w.heap.size w' e (val X) (val Y) ∧ Below w.heap.size w w'

set_option maxHeartbeats 1000000 in
theorem divide_any (X Y : List Int) (v u : Value) (w : World) (hX : Sl .u32 w v X) (hY : Sl .u32 w u Y) (uX : U32s X) (uY : U32s Y) (sX : sig X = X.length) (sY : sig Y = Y.length) (h0 : Y ≠ []) (lX : X.length ≤ 1073741824) (lY : Y.length ≤ 1073741824)
    (H : Y.length = 1 ∨ LongOK) :
    Calls Tryz.prog 152 #[v, u] w fun e w' => QR w.heap.size w' e (val X) (val Y) ∧ Below w.heap.size w w' := by
  have hY0 : 0 < Y.length := by cases Y <;> simp at *
  obtain ⟨a1, c1, rfl, _⟩ := hX.len
  obtain ⟨a2, c2, rfl, hc2, hYr⟩ := id hY
  have nX := val_nonneg uX
  by_cases hlt : val X < val Y
  · have hc : cmpI (val X) (val Y) = -1 := by unfold cmpI; rw [if_pos hlt]
    have HE : Hid (val X / val Y = 0 ∧ val X % val Y = val X) := ⟨Int.ediv_eq_zero_of_lt nX hlt, Int.emod_eq_of_lt nX hlt⟩
    clear hlt
    go_enter Tryz.func152, Tryz.ntmps152
    go_wp2_with (first
      | (go_at_call 122; refine (Cmp_sl _ _ X Y hX hY uX uY (by omega) (by omega) _ hc).mono ?_; rintro e w1 ⟨rfl, hB⟩; have hX1 := below_sl hB hX)
      | (go_at_call 123; refine (Trim_any X _ _ hX1 uX (by omega)).mono ?_; rintro e w2 ⟨r, rfl, hr, hB2⟩))
    go_ret2
    obtain ⟨e1, e2⟩ := HE.out
    refine ⟨⟨_, _, rfl, ?_, ?_⟩, hB.trans (hB2.mono hB.size)⟩
    · rw [e1]; exact .inl ⟨rfl, by simp [lim_zero]⟩
    · rw [e2]; exact hr.mono hB.size
  · obtain ⟨c, hc, hc0⟩ : ∃ c, cmpI (val X) (val Y) = c ∧ 0 ≤ c := by
      unfold cmpI; rw [if_neg hlt]; split
      · exact ⟨1, rfl, by decide⟩
      · exact ⟨0, rfl, by decide⟩
    by_cases h1 : Y.length = 1
    · obtain ⟨y, rfl⟩ : ∃ y, Y = [y] := by
        match Y, h1 with
        | [y], _ => exact ⟨y, rfl⟩
      have uy : U32 y := uY.head
      have hy0 : y ≠ 0 := by intro h; subst h; simp [sig] at sY
      have hvy : val [y] = y := by simp [val]
      rcases hYr with hYr | ⟨b, o, rfl, hb, hr⟩
      · simp at hYr
      have hcell := hr 0 (by simp)
      simp at hcell
      have HE : Hid (val [y] = y) := hvy
      obtain ⟨u1, u2⟩ := uy
      have hy1 : 0 < y := by omega
      clear hlt hr hvy sY h1
      simp only [List.length_cons, List.length_nil] at hY hc2 ⊢
      go_enter Tryz.func152, Tryz.ntmps152
      go_wp2_with (first
        | (go_at_call 122; refine (Cmp_sl _ _ X [y] hX hY uX uY (by omega) (by simp) _ hc).mono ?_; rintro e w1 ⟨rfl, hB⟩; have hX1 := below_sl hB hX; have hcell1 := (hB.cell (p := ⟨b, o, none⟩) hb).trans hcell)
        | (go_at_call 160; refine (divideByLimb_any X y _ _ hX1 uX hy1 u2 (by omega)).mono ?_; rintro e w2 ⟨q, r, rfl, hq, hr, hB2⟩))
      go_ret2
      rw [HE.out]
      exact ⟨⟨_, _, rfl, hq.mono hB.size, hr.mono hB.size⟩, hB.trans (hB2.mono hB.size)⟩
    · have H2 : LongOK := by rcases H with h | h; exact absurd h h1; exact h
      have HH : Hid (LongOK ∧ val Y ≤ val X) := ⟨H2, by omega⟩
      have hY2 : 2 ≤ Y.length := by omega
      clear hlt H H2 hYr
      go_enter Tryz.func152, Tryz.ntmps152
      go_wp2_with (first
        | (go_at_call 122; refine (Cmp_sl _ _ X Y hX hY uX uY (by omega) (by omega) _ hc).mono ?_; rintro e w1 ⟨rfl, hB⟩; have hX1 := below_sl hB hX; have hY1 := below_sl hB hY)
        | (go_at_call 161; refine (HH.out.1 X Y _ _ _ hX1 hY1 uX uY sX sY hY2 HH.out.2 lX).mono ?_; rintro e w2 ⟨⟨q, r, rfl, hq, hr⟩, hB2⟩))
      go_ret2
      exact ⟨⟨_, _, rfl, hq.mono hB.size, hr.mono hB.size⟩, hB.trans (hB2.mono hB.size)⟩

/-- Three results: quotient, rest, error. -/
def divS (X Y : List Int) : List Int × List Int × Int := if 512 < X.length ∨ 512 < Y.length then ([], [], 3) else if val Y = 0 then ([], [], 11) else (lim (val X / val Y).toNat, lim (val X % val Y).toNat, 0)
def Three (B : Nat) (w : World) (e : Ending) (s : List Int × List Int × Int) : Prop := ∃ q r, e = .returned (.tuple #[q, r, .int .i64 s.2.2]) ∧ Own B w q s.1 ∧ Own B w r s.2.1
theorem Three.nil' {B : Nat} {w : World} {n : Int} {s : List Int × List Int × Int} (hs : s = ([], [], n)) : Three B w (.returned (.tuple #[.slice none 0 0, .slice none 0 0, .int .i64 n])) s := by
  subst hs; exact ⟨_, _, rfl, .inl ⟨rfl, rfl⟩, .inl ⟨rfl, rfl⟩⟩
theorem Three.mk' {B : Nat} {w : World} {q r : Value} {n : Int} {L M : List Int} {s : List Int × List Int × Int} (h : Own B w q L) (h' : Own B w r M) (hs : s = (L, M, n)) : Three B w (.returned (.tuple #[q, r, .int .i64 n])) s := by
  subst hs; exact ⟨_, _, rfl, h, h'⟩

set_option maxHeartbeats 1000000 in
theorem DivMod_any (X Y : List Int) (v u : Value) (w : World) (hX : Sl .u32 w v X) (hY : Sl .u32 w u Y) (uX : U32s X) (uY : U32s Y) (H : sig Y ≤ 1 ∨ LongOK) :
    Calls Tryz.prog 141 #[v, u] w fun e w' => Three w.heap.size w' e (divS X Y) ∧ Below w.heap.size w w' := by
  by_cases hlong : 512 < X.length ∨ 512 < Y.length
  · have hb : (decide (512 < X.length) || decide (512 < Y.length)) = true := by simpa using hlong
    have HL : Hid (512 < X.length ∨ 512 < Y.length) := hlong
    clear hlong
    go_enter Tryz.func141, Tryz.ntmps141
    go_wp2_with (go_at_call 147; refine (tooLong_sl v u X Y hX hY true hb).mono ?_; rintro e w' ⟨rfl, rfl⟩)
    go_ret3
    exact ⟨Three.nil' (by unfold divS; rw [if_pos HL.out]), Below.refl _ _⟩
  have hb : (decide (512 < X.length) || decide (512 < Y.length)) = false := by simpa using hlong
  have lX : X.length ≤ 1152921504606846976 := by omega
  have lY : Y.length ≤ 1152921504606846976 := by omega
  have HL : Hid (¬ (512 < X.length ∨ 512 < Y.length)) := hlong
  by_cases hz : sig Y = 0
  · have hlen : Len w u 0 := ⟨Y, hY, lY, hz⟩
    have HZ : Hid (val Y = 0) := val_of_sig0 hz
    clear hlong hz
    go_enter Tryz.func141, Tryz.ntmps141
    go_wp2_with (first
      | (go_at_call 147; refine (tooLong_sl v u X Y hX hY false hb).mono ?_; rintro e w' ⟨rfl, rfl⟩)
      | (go_at_call 136; refine (length_len _ _ hlen).mono ?_; rintro e w' ⟨rfl, rfl⟩))
    go_ret3
    exact ⟨Three.nil' (by unfold divS; rw [if_neg HL.out, if_pos HZ.out]), Below.refl _ _⟩
  · obtain ⟨m, hm⟩ : ∃ m, sig Y = m + 1 := ⟨sig Y - 1, by omega⟩
    have hlen : Len w u (m + 1) := ⟨Y, hY, lY, hm⟩
    have HZ : Hid (¬ val Y = 0) := fun h => hz (sig0_of_val uY h)
    have uX' := trim_u32 uX
    have uY' := trim_u32 uY
    have lX' : (trim X).length ≤ 1073741824 := by have := sig_le X; rw [trim_len]; omega
    have lY' : (trim Y).length ≤ 1073741824 := by have := sig_le Y; rw [trim_len]; omega
    have hne : trim Y ≠ [] := by intro h; have := trim_len Y; rw [h] at this; simp at this; omega
    have H2 : (trim Y).length = 1 ∨ LongOK := by rw [trim_len]; rcases H with h | h; exact .inl (by omega); exact .inr h
    have HH : Hid ((trim Y).length = 1 ∨ LongOK) := H2
    clear hlong hz hm H H2
    go_enter Tryz.func141, Tryz.ntmps141
    go_wp2_with (first
      | (go_at_call 147; refine (tooLong_sl v u X Y hX hY false hb).mono ?_; rintro e w' ⟨rfl, rfl⟩)
      | (go_at_call 136; refine (length_len _ _ hlen).mono ?_; rintro e w' ⟨rfl, rfl⟩)
      | (go_at_call 121; refine (cut_sl _ _ (by assumption) (by assumption)).mono ?_; rintro e w' ⟨r, rfl, hr, rfl⟩)
      | (go_at_call 152; refine (divide_any (trim X) (trim Y) _ _ _ (by assumption) (by assumption) uX' uY' (trim_sig X) (trim_sig Y) hne lX' lY' HH.out).mono ?_; rintro e w2 ⟨⟨q, r, rfl, hq, hr⟩, hB2⟩))
    go_ret3
    rw [trim_val, trim_val] at hq hr
    exact ⟨Three.mk' hq hr (by unfold divS; rw [if_neg HL.out, if_neg HZ.out]), hB2⟩
end Go.Proofs.YtillkhjihggcjaaGreatDoor.Nt
/-
  Numbers by their values: the contracts above, said of values alone; the walks of hasBit, power, ExpMod.
-/
namespace Go.Proofs.YtillkhjihggcjaaGreatDoor.Nt
open Go.RowKit

/-- The slice v reads the number N (no limb 0 at its end), of at most k limbs. -/
def Num (k : Nat) (w : World) (v : Value) (N : Int) : Prop := 0 ≤ N ∧ N < 4294967296 ^ k ∧ Sl .u32 w v (lim N.toNat)
theorem Num.len {k : Nat} {w : World} {v : Value} {N : Int} (h : Num k w v N) : (lim N.toNat).length ≤ k := lim_len_le (by rw [Int.toNat_of_nonneg h.1]; exact h.2.1)
theorem Num.val {k : Nat} {w : World} {v : Value} {N : Int} (h : Num k w v N) : Go.Proofs.YtillkhjihggcjaaGreatDoor.val (lim N.toNat) = N := by rw [val_lim, Int.toNat_of_nonneg h.1]
theorem Num.below {k : Nat} {w w' : World} {v : Value} {N : Int} (h : Num k w v N) (hb : Below w.heap.size w w') : Num k w' v N := ⟨h.1, h.2.1, below_sl hb h.2.2⟩
theorem Num.mono {k k' : Nat} {w : World} {v : Value} {N : Int} (h : Num k w v N) (hk : k ≤ k') : Num k' w v N := ⟨h.1, Int.lt_of_lt_of_le h.2.1 (pow_mono hk), h.2.2⟩
/-! ### hasBit -/
theorem getD_div (xs : List Int) (i : Nat) (hu : U32s xs) : (val xs).toNat / 2 ^ (32 * i) % 4294967296 = (xs.getD i 0).toNat := by
  induction i generalizing xs with
  | zero =>
    rw [val_head_tail]
    have h1 := hu.at 0; unfold U32 at h1
    have h2 := val_nonneg hu.tl
    simp only [Nat.mul_zero, Nat.pow_zero, Nat.div_one]; omega
  | succ i ih =>
    have := ih xs.tail hu.tl
    rw [getD_tail] at this
    rw [← this, val_head_tail xs]
    have h1 := hu.at 0; unfold U32 at h1
    have h2 := val_nonneg hu.tl
    rw [Nat.mul_add, Nat.mul_one, Nat.add_comm, Nat.pow_add, ← Nat.div_div_eq_div_mul]
    congr 2; omega

theorem bit_eq (v i : Nat) : v / 2 ^ (32 * (i / 32)) % 4294967296 / 2 ^ (i % 32) % 2 = v / 2 ^ i % 2 := by
  have e : (4294967296 : Nat) = 2 ^ (i % 32) * 2 ^ (32 - i % 32) := by rw [← Nat.pow_add, show i % 32 + (32 - i % 32) = 32 by omega]
  have e2 : i = 32 * (i / 32) + i % 32 := by omega
  rw [e, Nat.mod_mul_right_div_self, Nat.div_div_eq_div_mul, ← Nat.pow_add, ← e2]
  have e3 : 2 ^ (32 - i % 32) = 2 * 2 ^ (31 - i % 32) := by rw [Nat.mul_comm, ← Nat.pow_succ]; congr 1; omega
  rw [e3, Nat.mod_mul_right_mod]

/-! ### power -/
theorem bitLen_lt {n k : Nat} (h : n < 2 ^ k) : bitLen n ≤ k := by
  have := bitLen_spec n
  apply Classical.byContradiction; intro hc
  by_cases h0 : n = 0
  · subst h0; simp [bitLen] at hc
  · have h2 := this.2 h0
    have h3 : 2 ^ k ≤ 2 ^ (bitLen n - 1) := Nat.pow_le_pow_right (by decide) (by omega)
    omega

end Go.Proofs.YtillkhjihggcjaaGreatDoor.Nt
