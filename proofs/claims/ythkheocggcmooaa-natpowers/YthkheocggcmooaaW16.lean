/-
  The walk of Bytes.
-/
import Derived.Test.YthkheocggcmooaaW14
namespace Go.Proofs.Ythkheocggcmooaa
open Go.RowKit

/-- n bytes of a number, the highest first. -/
def beb (v : Int) (n : Nat) : List Int := (List.range n).map fun k => v / 256 ^ (n - 1 - k) % 256
theorem beb_len (v : Int) (n : Nat) : (beb v n).length = n := by simp [beb]
theorem beb_get (v : Int) (n k : Nat) (h : k < n) : (beb v n).getD k 0 = v / 256 ^ (n - 1 - k) % 256 := by simp [beb, h]
theorem getD_ext {xs ys : List Int} (hl : xs.length = ys.length) (h : ∀ k, k < xs.length → xs.getD k 0 = ys.getD k 0) : xs = ys := by
  apply List.ext_getElem hl
  intro k h1 h2
  have := h k h1
  simpa [h1, h2] using this
theorem beb_u8 (v : Int) (n : Nat) : U8s (beb v n) := by
  intro x hx
  simp only [beb, List.mem_map] at hx
  obtain ⟨k, _, rfl⟩ := hx
  exact ⟨by omega, by omega⟩
theorem byte_of {X : List Int} (hu : U32s X) (i : Nat) : X.getD (i / 4) 0 / 2 ^ (i % 4 * 8) % 256 = val X / 256 ^ i % 256 := by
  have h := getD_div X (i / 4) hu
  obtain ⟨n, hn⟩ := Int.eq_ofNat_of_zero_le (val_nonneg hu)
  obtain ⟨z, hz⟩ := Int.eq_ofNat_of_zero_le (hu.at (i / 4)).1
  rw [hn, hz] at h
  simp only [Int.toNat_natCast] at h
  rw [hn, hz, pow256, pow32, ← h]
  have e0 : ((2 : Int) ^ (i % 4 * 8)) = ((2 ^ (i % 4 * 8) : Nat) : Int) := by simp
  rw [e0]
  have key : n / 2 ^ (32 * (i / 4)) % 4294967296 / 2 ^ (i % 4 * 8) % 256 = n / (2 ^ (32 * (i / 4)) * 2 ^ (i % 4 * 8)) % 256 := by
    obtain ⟨s, hs⟩ : ∃ s, i % 4 * 8 = s := ⟨_, rfl⟩
    rw [hs]
    have hs24 : s ≤ 24 := by omega
    have e : (4294967296 : Nat) = 2 ^ s * 2 ^ (32 - s) := by rw [← Nat.pow_add, show s + (32 - s) = 32 by omega]
    rw [e, Nat.mod_mul_right_div_self, Nat.div_div_eq_div_mul]
    have e3 : 2 ^ (32 - s) = 256 * 2 ^ (24 - s) := by rw [show (256 : Nat) = 2 ^ 8 from rfl, ← Nat.pow_add]; congr 1; omega
    rw [e3, Nat.mod_mul_right_mod]
  have k2 := congrArg (fun t : Nat => (t : Int)) key
  simp only [Int.natCast_emod, Int.natCast_ediv, Int.natCast_mul] at k2 ⊢
  exact k2
theorem high_zero {X : List Int} (hu : U32s X) {j : Nat} (h : 4 * sig X ≤ j) : val X / 256 ^ j % 256 = 0 := by
  have h1 : val X < 256 ^ j := by
    have h2 := val_lt (hu.take (sig X))
    rw [val_take_sig, List.length_take, Nat.min_eq_left (sig_le X)] at h2
    have h3 : (4294967296 : Int) ^ sig X = 256 ^ (4 * sig X) := by rw [Int.pow_mul]; rfl
    obtain ⟨d, rfl⟩ := Nat.le.dest h
    rw [Int.pow_add, ← h3]
    have h4 : (0 : Int) < 256 ^ d := Int.pow_pos (by decide)
    calc val X < 4294967296 ^ sig X * 1 := by omega
      _ ≤ 4294967296 ^ sig X * 256 ^ d := Int.mul_le_mul_of_nonneg_left (by omega) (Int.le_of_lt (pow_pos32 _))
  rw [Int.ediv_eq_zero_of_lt (val_nonneg hu) h1]; rfl

def bytS (X : List Int) (n : Int) : List Int × Int := if 512 < X.length then ([], 3) else if n < 0 ∨ 2048 < n then ([], 1) else if 8 * n < bitLen (val X).toNat then ([], 3) else (beb (val X) n.toNat, 0)
/-- Bytes and an error, as two results. -/
def Own8 (B : Nat) (w : World) (v : Value) (bs : List Int) : Prop := (v = .slice none 0 0 ∧ bs = []) ∨ ∃ b, v = .slice (some ⟨b, 0, none⟩) bs.length bs.length ∧ B ≤ b ∧ Arr .u8 5 w b bs
def Two8 (B : Nat) (w : World) (e : Ending) (s : List Int × Int) : Prop := ∃ r, e = .returned (.tuple #[r, .int .i64 s.2]) ∧ Own8 B w r s.1 ∧ (s.2 = 0 → r ≠ .slice none 0 0)
theorem Two8.nil' {B : Nat} {w : World} {n : Int} {s : List Int × Int} (hs : s = ([], n)) (hn : n ≠ 0) : Two8 B w (.returned (.tuple #[.slice none 0 0, .int .i64 n])) s := by
  subst hs; exact ⟨_, rfl, .inl ⟨rfl, rfl⟩, fun h => absurd h hn⟩
theorem Two8.mk' {B : Nat} {w : World} {r : Value} {n : Int} {bs : List Int} {s : List Int × Int} (h : Own8 B w r bs) (hs : s = (bs, n)) (hr : r ≠ .slice none 0 0) : Two8 B w (.returned (.tuple #[r, .int .i64 n])) s := by
  subst hs; exact ⟨r, rfl, h, fun _ => hr⟩
theorem Own8.sl {B : Nat} {w : World} {v : Value} {bs : List Int} (h : Own8 B w v bs) : Sl .u8 w v bs := by
  rcases h with ⟨rfl, rfl⟩ | ⟨b, rfl, _, hA⟩
  · exact ⟨none, 0, rfl, Nat.le_refl _, .inl rfl⟩
  · exact ⟨_, _, rfl, Nat.le_refl _, .inr ⟨b, 0, rfl, hA.lt, by have := hA.rd 0 bs.length (by omega); rw [List.drop_zero, List.take_length] at this; exact this⟩⟩

set_option maxHeartbeats 2000000 in
theorem Bytes_any (X : List Int) (n : Int) (v : Value) (w : World) (hX : Sl .u32 w v X) (uX : U32s X) (hn0 : -9223372036854775808 ≤ n) (hn1 : n ≤ 9223372036854775807) :
    Calls Try.prog 36 #[v, .int .i64 n] w fun e w' => Two8 w.heap.size w' e (bytS X n) ∧ Below w.heap.size w w' := by
  obtain ⟨a, c, rfl, hc, hXr⟩ := id hX
  by_cases h1 : 512 < X.length
  · have HL : Hid (bytS X n = ([], 3)) := by unfold bytS; rw [if_pos h1]; rfl
    go_enter Try.func36, Try.ntmps36
    go_wp2
    go_ret2
    exact ⟨Two8.nil' HL.out (by decide), Below.refl _ _⟩
  by_cases h2 : n < 0
  · have HL : Hid (bytS X n = ([], 1)) := by unfold bytS; rw [if_neg h1, if_pos (.inl h2)]; rfl
    go_enter Try.func36, Try.ntmps36
    go_wp2
    go_ret2
    exact ⟨Two8.nil' HL.out (by decide), Below.refl _ _⟩
  by_cases h3 : 2048 < n
  · have HL : Hid (bytS X n = ([], 1)) := by unfold bytS; rw [if_neg h1, if_pos (.inr h3)]; rfl
    go_enter Try.func36, Try.ntmps36
    go_wp2
    go_ret2
    exact ⟨Two8.nil' HL.out (by decide), Below.refl _ _⟩
  obtain ⟨N, rfl⟩ := Int.eq_ofNat_of_zero_le (show 0 ≤ n by omega)
  have hbits := Bits_any X _ w hX uX (by omega)
  obtain ⟨bl, hbl⟩ : ∃ bl, bitLen (val X).toNat = bl := ⟨_, rfl⟩
  rw [hbl] at hbits
  by_cases h4 : 8 * N < bl
  · have HL : Hid (bytS X N = ([], 3)) := by unfold bytS; rw [if_neg h1, if_neg (by omega), hbl, if_pos (by omega)]; rfl
    clear hbl
    go_enter Try.func36, Try.ntmps36
    go_wp2_with (go_at_call 18; refine hbits.mono ?_; rintro e w' ⟨rfl, hB⟩)
    go_ret2
    exact ⟨Two8.nil' HL.out (by decide), hB⟩
  have HL : Hid (bytS X N = (beb (val X) N, 0)) := by unfold bytS; rw [if_neg h1, if_neg (by omega), hbl, if_neg (by omega)]; rfl
  have hsX := sig_le X
  have hlen := fun (w' : World) (hB : Below w.heap.size w w') => length_len (w := w') _ _ ⟨X, below_sl hB hX, by omega, rfl⟩
  obtain ⟨sg, hsg⟩ : ∃ sg, sig X = sg := ⟨_, rfl⟩
  rw [hsg] at hsX hlen
  obtain ⟨mn, hmn, hmn2⟩ : ∃ mn : Nat, mn ≤ N ∧ mn ≤ 4 * sg := ⟨min N (4 * sg), by omega, by omega⟩
  have HB : Hid (bitLen (val X).toNat = bl ∧ sig X = sg) := ⟨hbl, hsg⟩
  clear hbl hsg mn hmn hmn2
  by_cases hle : N ≤ 4 * sg
  · have hle' : (N : Int) ≤ 4 * (sg : Int) := by omega
    go_enter Try.func36, Try.ntmps36
    go_wp2_with (first
      | (go_at_call 18; refine hbits.mono ?_; rintro e w' ⟨rfl, hB⟩)
      | (at_make; refine wpList_mk _ rfl _ _ 41 rfl .u8 5 1 Try.und8 Try.info8 _ N rfl rfl (by omega) (by omega) (by omega) ?_; intro w1 hA1 hB1; have hBt := hB.trans (hB1.mono hB.size))
      | (go_at_call 52; refine (hlen _ hBt).mono ?_; rintro e w1 ⟨rfl, rfl⟩))
    have hblk : w.heap.size ≤ w'.heap.size := hB.size
    go_loopw [30] (fun iv wr => ∃ (i : Nat) (S : List Int), iv = .int .i64 i ∧ i ≤ N ∧ Arr .u8 5 wr w'.heap.size S ∧ S.length = N ∧ Below w.heap.size w wr ∧ ∀ k, k < N → S.getD k 0 = if N - 1 - k < i then val X / 256 ^ (N - 1 - k) % 256 else 0)
      (fun iv _ => N - (intOf iv).toNat)
    case atStart => exact ⟨0, _, rfl, Nat.zero_le _, hA1, by simp, hBt, fun k hk => by simp [hk]⟩
    case round =>
      clear hA1 hB1 hBt hlen hbits
      obtain ⟨i, S, rfl, hi, hA, hlS, hBt, hv⟩ := hrel
      by_cases hlt : i < N
      · rcases hXr with rfl | ⟨b, o, rfl, hb, hr⟩
        · simp at hsX; omega
        obtain ⟨m, hm⟩ : ∃ m, N - 1 - i = m := ⟨_, rfl⟩
        obtain ⟨q, hq⟩ : ∃ q, i / 4 = q := ⟨_, rfl⟩
        obtain ⟨s, hs⟩ : ∃ s, i % 4 * 8 = s := ⟨_, rfl⟩
        obtain ⟨z, hz⟩ : ∃ z, X.getD q 0 = z := ⟨_, rfl⟩
        have uz : U32 z := hz ▸ uX.at q
        have hcz : wr.cell? ⟨b, o + q, none⟩ = some (.int .u32 z) := by rw [← hz]; exact (below_rd hBt hb hr) q (by omega)
        obtain ⟨y, hcy⟩ : ∃ y, wr.cell? ⟨w'.heap.size, m, none⟩ = some (.int .u8 y) := ⟨_, hA.cell m (by omega)⟩
        have hfz : wr.frozen? ⟨w'.heap.size, m, none⟩ = false := hA.frozen m
        obtain ⟨z0, z1⟩ := uz
        have hs24 : s ≤ 24 := by omega
        have hp0 : (0 : Int) < 2 ^ s := Int.pow_pos (by decide)
        have hd0 : 0 ≤ z / 2 ^ s := Int.ediv_nonneg z0 (Int.le_of_lt hp0)
        have hd1 : z / 2 ^ s < 4294967296 := Int.lt_of_le_of_lt (Int.ediv_le_self _ z0) z1
        have hqi : (i : Int) / 4 = q := by omega
        have hsi : (i : Int) % 4 * 8 = s := by omega
        have hmi : (N : Int) - 1 - i = m := by omega
        have hqs : q < X.length := by omega
        have hmn : m < N := by omega
        have HH : Hid (X.getD q 0 = z ∧ Arr .u8 5 wr w'.heap.size S ∧ S.length = N ∧ Below w.heap.size w wr ∧ (∀ k, k < N → S.getD k 0 = if N - 1 - k < i then val X / 256 ^ (N - 1 - k) % 256 else 0) ∧ N - 1 - i = m ∧ i / 4 = q ∧ i % 4 * 8 = s) := ⟨hz, hA, hlS, hBt, hv, hm, hq, hs⟩
        clear hz hA hlS hBt hv hm hq hs hr
        go_wp2
        go_roundw
        case rel =>
          obtain ⟨hz, hA, hlS, hBt, hv, hm, hq, hs⟩ := HH.out
          refine ⟨i + 1, S.set m (z / 2 ^ s % 256), by go_num, by omega, hA.set _ _, by simpa using hlS, hBt.setCell hblk _, fun k hk => ?_⟩
          by_cases hkm : k = m
          · subst hkm
            rw [if_pos (by omega), List.getD_eq_getElem?_getD, List.getElem?_set_self (by omega)]
            have e : N - 1 - k = i := by omega
            rw [e, ← byte_of uX, hq, hs, hz]; rfl
          · rw [List.getD_eq_getElem?_getD, List.getElem?_set_ne (Ne.symm hkm), ← List.getD_eq_getElem?_getD, hv k hk]
            have e : (N - 1 - k < i) = (N - 1 - k < i + 1) := by apply propext; omega
            simp only [e]
        case measure => simp [intOf]; omega
      · have HH : Hid (Arr .u8 5 wr w'.heap.size S ∧ S.length = N ∧ Below w.heap.size w wr ∧ (∀ k, k < N → S.getD k 0 = if N - 1 - k < i then val X / 256 ^ (N - 1 - k) % 256 else 0) ∧ i = N) := ⟨hA, hlS, hBt, hv, by omega⟩
        clear hA hlS hBt hv
        go_wp2
        go_ret2
        obtain ⟨hA, hlS, hBt, hv, hiT⟩ := HH.out
        refine ⟨Two8.mk' (bs := beb (val X) N) (.inr ⟨_, ?_, hblk, ?_⟩) HL.out (by simp), hBt⟩
        · rw [beb_len]; rfl
        · have : beb (val X) N = S := by
            refine getD_ext (by rw [beb_len, hlS]) fun k hk => ?_
            rw [beb_len] at hk
            rw [beb_get _ _ _ hk, hv k hk]
            rw [if_pos (by omega)]
          rw [this]; exact hA
  · have hle' : 4 * (sg : Int) < (N : Int) := by omega
    go_enter Try.func36, Try.ntmps36
    go_wp2_with (first
      | (go_at_call 18; refine hbits.mono ?_; rintro e w' ⟨rfl, hB⟩)
      | (at_make; refine wpList_mk _ rfl _ _ 41 rfl .u8 5 1 Try.und8 Try.info8 _ N rfl rfl (by omega) (by omega) (by omega) ?_; intro w1 hA1 hB1; have hBt := hB.trans (hB1.mono hB.size))
      | (go_at_call 52; refine (hlen _ hBt).mono ?_; rintro e w1 ⟨rfl, rfl⟩))
    have hblk : w.heap.size ≤ w'.heap.size := hB.size
    go_loopw [30] (fun iv wr => ∃ (i : Nat) (S : List Int), iv = .int .i64 i ∧ i ≤ (4 * sg) ∧ Arr .u8 5 wr w'.heap.size S ∧ S.length = N ∧ Below w.heap.size w wr ∧ ∀ k, k < N → S.getD k 0 = if N - 1 - k < i then val X / 256 ^ (N - 1 - k) % 256 else 0)
      (fun iv _ => (4 * sg) - (intOf iv).toNat)
    case atStart => exact ⟨0, _, rfl, Nat.zero_le _, hA1, by simp, hBt, fun k hk => by simp [hk]⟩
    case round =>
      clear hA1 hB1 hBt hlen hbits
      obtain ⟨i, S, rfl, hi, hA, hlS, hBt, hv⟩ := hrel
      by_cases hlt : i < (4 * sg)
      · rcases hXr with rfl | ⟨b, o, rfl, hb, hr⟩
        · simp at hsX; omega
        obtain ⟨m, hm⟩ : ∃ m, N - 1 - i = m := ⟨_, rfl⟩
        obtain ⟨q, hq⟩ : ∃ q, i / 4 = q := ⟨_, rfl⟩
        obtain ⟨s, hs⟩ : ∃ s, i % 4 * 8 = s := ⟨_, rfl⟩
        obtain ⟨z, hz⟩ : ∃ z, X.getD q 0 = z := ⟨_, rfl⟩
        have uz : U32 z := hz ▸ uX.at q
        have hcz : wr.cell? ⟨b, o + q, none⟩ = some (.int .u32 z) := by rw [← hz]; exact (below_rd hBt hb hr) q (by omega)
        obtain ⟨y, hcy⟩ : ∃ y, wr.cell? ⟨w'.heap.size, m, none⟩ = some (.int .u8 y) := ⟨_, hA.cell m (by omega)⟩
        have hfz : wr.frozen? ⟨w'.heap.size, m, none⟩ = false := hA.frozen m
        obtain ⟨z0, z1⟩ := uz
        have hs24 : s ≤ 24 := by omega
        have hp0 : (0 : Int) < 2 ^ s := Int.pow_pos (by decide)
        have hd0 : 0 ≤ z / 2 ^ s := Int.ediv_nonneg z0 (Int.le_of_lt hp0)
        have hd1 : z / 2 ^ s < 4294967296 := Int.lt_of_le_of_lt (Int.ediv_le_self _ z0) z1
        have hqi : (i : Int) / 4 = q := by omega
        have hsi : (i : Int) % 4 * 8 = s := by omega
        have hmi : (N : Int) - 1 - i = m := by omega
        have hqs : q < X.length := by omega
        have hmn : m < N := by omega
        have HH : Hid (X.getD q 0 = z ∧ Arr .u8 5 wr w'.heap.size S ∧ S.length = N ∧ Below w.heap.size w wr ∧ (∀ k, k < N → S.getD k 0 = if N - 1 - k < i then val X / 256 ^ (N - 1 - k) % 256 else 0) ∧ N - 1 - i = m ∧ i / 4 = q ∧ i % 4 * 8 = s) := ⟨hz, hA, hlS, hBt, hv, hm, hq, hs⟩
        clear hz hA hlS hBt hv hm hq hs hr
        go_wp2
        go_roundw
        case rel =>
          obtain ⟨hz, hA, hlS, hBt, hv, hm, hq, hs⟩ := HH.out
          refine ⟨i + 1, S.set m (z / 2 ^ s % 256), by go_num, by omega, hA.set _ _, by simpa using hlS, hBt.setCell hblk _, fun k hk => ?_⟩
          by_cases hkm : k = m
          · subst hkm
            rw [if_pos (by omega), List.getD_eq_getElem?_getD, List.getElem?_set_self (by omega)]
            have e : N - 1 - k = i := by omega
            rw [e, ← byte_of uX, hq, hs, hz]; rfl
          · rw [List.getD_eq_getElem?_getD, List.getElem?_set_ne (Ne.symm hkm), ← List.getD_eq_getElem?_getD, hv k hk]
            have e : (N - 1 - k < i) = (N - 1 - k < i + 1) := by apply propext; omega
            simp only [e]
        case measure => simp [intOf]; omega
      · have HH : Hid (Arr .u8 5 wr w'.heap.size S ∧ S.length = N ∧ Below w.heap.size w wr ∧ (∀ k, k < N → S.getD k 0 = if N - 1 - k < i then val X / 256 ^ (N - 1 - k) % 256 else 0) ∧ i = (4 * sg)) := ⟨hA, hlS, hBt, hv, by omega⟩
        clear hA hlS hBt hv
        go_wp2
        go_ret2
        obtain ⟨hA, hlS, hBt, hv, hiT⟩ := HH.out
        refine ⟨Two8.mk' (bs := beb (val X) N) (.inr ⟨_, ?_, hblk, ?_⟩) HL.out (by simp), hBt⟩
        · rw [beb_len]; rfl
        · have : beb (val X) N = S := by
            refine getD_ext (by rw [beb_len, hlS]) fun k hk => ?_
            rw [beb_len] at hk
            rw [beb_get _ _ _ hk, hv k hk]
            split
            · rfl
            · exact high_zero uX (by have := HB.out.2; omega)
          rw [this]; exact hA
end Go.Proofs.Ythkheocggcmooaa
