/-
  NatBack: whatever the bytes and the number, the law answers true, and writes nothing that was there.
-/
import Derived.Test.YtcbdjgjaeopekabV
namespace Go.Proofs.Ytcbdjgjaeopekab
open Go.RowKit

theorem bv_get {xs : List Int} (h : U8s xs) (k : Nat) : bv xs / 256 ^ k % 256 = xs.getD k 0 := by
  induction xs generalizing k with
  | nil => simp [bv]
  | cons x xs ih =>
    have hx := h x (by simp)
    unfold U8 at hx
    have hb := (bv_bound h.tail).1
    cases k with
    | zero => simp [bv]; omega
    | succ k =>
      have e : (256 : Int) ^ (k + 1) = 256 * 256 ^ k := by rw [Int.pow_succ, Int.mul_comm]
      rw [List.getD_cons_succ, ← ih h.tail k, e]
      have hp : (0 : Int) < 256 ^ k := Int.pow_pos (by decide)
      rw [← Int.ediv_ediv_of_nonneg (by decide)]
      have e2 : bv (x :: xs) / 256 = bv xs := by simp only [bv]; omega
      rw [e2]
theorem beb_eq (bs : List Int) (hu : U8s bs) (m : Nat) : beb (bv bs.reverse) (bs.length + m) = List.replicate m 0 ++ bs := by
  refine getD_ext (by rw [beb_len]; simp [Nat.add_comm]) fun k hk => ?_
  rw [beb_len] at hk
  rw [beb_get _ _ _ hk, bv_get hu.rev]
  by_cases h : k < m
  · rw [List.getD_eq_getElem?_getD, List.getElem?_eq_none (by simp; omega), List.getD_eq_getElem?_getD, List.getElem?_append_left (by simpa using h)]
    simp [h]
  · rw [List.getD_eq_getElem?_getD, List.getElem?_reverse (by omega), List.getD_eq_getElem?_getD, List.getElem?_append_right (by simp; omega)]
    congr 2; simp; omega
theorem bv_zeros (m : Nat) : bv (List.replicate m 0) = 0 := by
  induction m with
  | zero => rfl
  | succ m ih => simp [List.replicate_succ, bv, ih]
theorem bv_beb (bs : List Int) (hu : U8s bs) (m : Nat) : bv (beb (bv bs.reverse) (bs.length + m)).reverse = bv bs.reverse := by
  rw [beb_eq bs hu m, List.reverse_append, bv_append, List.reverse_replicate, bv_zeros]; simp
theorem pow256_512 : (256 : Int) ^ 2048 = 4294967296 ^ 512 := by rw [show (2048 : Nat) = 4 * 512 from rfl, Int.pow_mul]; rfl
theorem pow256_mono {i j : Nat} (h : i ≤ j) : (256 : Int) ^ i ≤ 256 ^ j := by
  obtain ⟨d, rfl⟩ := Nat.le.dest h
  rw [Int.pow_add]
  have h1 : (0 : Int) < 256 ^ i := Int.pow_pos (by decide)
  have h2 : (0 : Int) < 256 ^ d := Int.pow_pos (by decide)
  calc (256 : Int) ^ i = 256 ^ i * 1 := by rw [Int.mul_one]
    _ ≤ 256 ^ i * 256 ^ d := Int.mul_le_mul_of_nonneg_left (by omega) (by omega)

theorem FromV {w : World} (v : Value) (bs : List Int) (h : Sl .u8 w v bs) (hu : U8s bs) (l : bs.length ≤ 2048) (N : Int) (hN : bv bs.reverse = N) :
    Calls Try.prog 21 #[v] w fun e w' => ∃ r, e = .returned (.tuple #[r, .int .i64 0]) ∧ Own w.heap.size w' r (lim N.toNat) ∧ Below w.heap.size w w' := by
  subst hN
  refine (FromBytes_any bs v w h hu).mono ?_
  have e1 : fromS bs = (lim (bv bs.reverse).toNat, 0) := by unfold fromS; rw [if_neg (by omega)]
  rintro e w' ⟨⟨r, rfl, hr⟩, hB⟩
  rw [e1] at hr
  exact ⟨r, by rw [e1], hr, hB⟩
theorem FromLong {w : World} (v : Value) (bs : List Int) (h : Sl .u8 w v bs) (hu : U8s bs) (l : 2048 < bs.length) :
    Calls Try.prog 21 #[v] w fun e w' => ∃ r, e = .returned (.tuple #[r, .int .i64 3]) ∧ Below w.heap.size w w' := by
  refine (FromBytes_any bs v w h hu).mono ?_
  have e1 : fromS bs = ([], 3) := by unfold fromS; rw [if_pos l]
  rintro e w' ⟨⟨r, rfl, hr⟩, hB⟩
  exact ⟨r, by rw [e1], hB⟩
theorem bitLen_of {n : Int} {k : Nat} (h0 : 0 ≤ n) (h : n < 256 ^ k) : bitLen n.toNat ≤ 8 * k := by
  apply bitLen_lt
  have e : (256 : Int) ^ k = ((2 ^ (8 * k) : Nat) : Int) := by rw [Nat.pow_mul]; simp
  rw [e] at h; omega
theorem BytesV {w : World} (v : Value) (X : List Int) (h : Sl .u32 w v X) (uX : U32s X) (lX : X.length ≤ 512) (n : Nat) (hn : n ≤ 2048) (hv : val X < 256 ^ n) (bs : List Int) (hb : beb (val X) n = bs) :
    Calls Try.prog 22 #[v, .int .i64 n] w fun e w' => ∃ b, e = .returned (.tuple #[.slice (some ⟨b, 0, none⟩) n n, .int .i64 0]) ∧ Arr .u8 5 w' b bs ∧ Below w.heap.size w w' := by
  subst hb
  refine (Bytes_any X n v w h uX (by omega) (by omega)).mono ?_
  have e1 : bytS X n = (beb (val X) n, 0) := by
    have := bitLen_of (val_nonneg uX) hv
    unfold bytS; rw [if_neg (by omega), if_neg (by omega), if_neg (by omega)]; rfl
  rintro e w' ⟨⟨r, rfl, hr, hne⟩, hB⟩
  rw [e1] at hr hne
  rcases hr with ⟨rfl, _⟩ | ⟨b, rfl, _, hA⟩
  · exact absurd rfl (hne rfl)
  · exact ⟨b, by rw [e1, beb_len], hA, hB⟩

set_option maxHeartbeats 4000000 in
theorem back_any (bs : List Int) (a0 : Option Addr) (c0 : Nat) (m : Nat) (hm : m ≤ 255) (w : World) (hb : Sl .u8 w (.slice a0 bs.length c0) bs) (ub : U8s bs) :
    Calls Try.prog 7 #[.slice a0 bs.length c0, .int .u8 m] w fun e w' => e = .returned (.bool true) ∧ Below w.heap.size w w' := by
  have hBt : Below w.heap.size w w := Below.refl _ _
  by_cases l1 : 2048 < bs.length
  · go_enter Try.func7, Try.ntmps7
    go_wp2_with (first
      | (go_at_call 21; refine (FromLong _ bs hb ub l1).mono ?_; rintro e w' ⟨r, rfl, hB⟩; replace hBt := grow0 hBt hB)
      | (go_at_call 13; refine (num_any _ _).mono ?_; rintro e w' ⟨rfl, rfl⟩)
      | (go_at_call 9; refine (live_any _).mono ?_; rintro e w' ⟨rfl, hB⟩; replace hBt := grow0 hBt hB))
    go_ret
    exact ⟨rfl, hBt⟩
  obtain ⟨N, hN⟩ : ∃ N, bv bs.reverse = N := ⟨_, rfl⟩
  obtain ⟨n0, n1⟩ := bv_bound ub.rev
  rw [hN] at n0 n1
  simp only [List.length_reverse] at n1
  have HN : Hid (bv bs.reverse = N) := hN
  by_cases l2 : 2048 < bs.length + m
  · clear hN n1
    go_enter Try.func7, Try.ntmps7
    go_wp2_with (first
      | (go_at_call 21; refine (FromV _ bs hb ub (by omega) N HN.out).mono ?_; rintro e w' ⟨r, rfl, hO, hB⟩; replace hBt := grow0 hBt hB)
      | (go_at_call 13; refine (num_any _ _).mono ?_; rintro e w' ⟨rfl, rfl⟩)
      | (go_at_call 9; refine (live_any _).mono ?_; rintro e w' ⟨rfl, hB⟩; replace hBt := grow0 hBt hB))
    go_ret
    exact ⟨rfl, hBt⟩
  have hpow : N < 256 ^ (bs.length + m) := Int.lt_of_lt_of_le n1 (pow256_mono (by omega))
  have hl : (lim N.toNat).length ≤ 512 := lim_fits n0 (by rw [← pow256_512]; exact Int.lt_of_lt_of_le n1 (pow256_mono (by omega)))
  have hvl : val (lim N.toNat) = N := val_limI n0
  have HB : Hid (beb (val (lim N.toNat)) (bs.length + m) = List.replicate m 0 ++ bs ∧ val (lim N.toNat) < 256 ^ (bs.length + m) ∧ bv (List.replicate m 0 ++ bs).reverse = N) := by
    refine ⟨?_, by rw [hvl]; exact hpow, ?_⟩
    · rw [hvl, ← hN]; exact beb_eq bs ub m
    · rw [← beb_eq bs ub m, bv_beb bs ub m]; exact hN
  have uz : U8s (List.replicate m 0 ++ bs) := by
    intro x hx
    rcases List.mem_append.1 hx with h | h
    · rw [(List.mem_replicate.1 h).2]; exact ⟨by decide, by decide⟩
    · exact ub x h
  have hlz : (List.replicate m (0 : Int) ++ bs).length = bs.length + m := by simp [Nat.add_comm]
  have hcast : ((bs.length + m : Nat) : Int) = (bs.length : Int) + m := by omega
  have hbyt := fun (w' : World) (v : Value) (h : Sl .u32 w' v (lim N.toNat)) => BytesV v (lim N.toNat) h (lim_u32 _) hl (bs.length + m) (by omega) HB.out.2.1 _ HB.out.1
  rw [hcast] at hbyt
  have HZ : Hid ((List.replicate m (0 : Int) ++ bs).length = bs.length + m) := hlz
  have hnl : (lim N.toNat).length ≤ 1152921504606846976 := by omega
  clear hN n1 hpow hvl hlz hcast
  have hsl3 : ∀ (w' : World) (b : Nat), Arr .u8 5 w' b (List.replicate m 0 ++ bs) → Sl .u8 w' (.slice (some ⟨b, 0, none⟩) (bs.length + m) (bs.length + m)) (List.replicate m 0 ++ bs) := fun w' b h => by
    have := h.sl8; rw [HZ.out] at this; exact this
  have hsl4 : ∀ (w' : World) (b c : Nat), Arr .u8 5 w' b (List.replicate m 0 ++ bs) → bs.length ≤ c → Sl .u8 w' (.slice (some ⟨b, m, none⟩) bs.length c) bs := fun w' b c h hc => by
    refine ⟨_, _, rfl, hc, .inr ⟨b, m, rfl, h.lt, ?_⟩⟩
    have := h.rd m bs.length (by have := HZ.out; omega)
    rw [List.drop_left' (by simp), List.take_length] at this; exact this
  have hml : (bs.length + m : Int) - m = bs.length := by omega
  have hmt : bs.length + m - m = bs.length := by omega
  by_cases h0 : bs.length = 0
  · have hbs : bs = [] := List.length_eq_zero_iff.1 h0
    subst hbs
    have hB1 := HB.out
    simp only [List.length_nil, Nat.zero_add, List.append_nil] at hB1 hb uz l2 ⊢
    have hbyt0 := fun (w' : World) (v : Value) (h : Sl .u32 w' v (lim N.toNat)) => BytesV v (lim N.toNat) h (lim_u32 _) hl m (by omega) hB1.2.1 _ hB1.1
    have hsl5 : ∀ (w' : World) (b : Nat), Arr .u8 5 w' b (List.replicate m 0) → Sl .u8 w' (.slice (some ⟨b, 0, none⟩) m m) (List.replicate m 0) := fun w' b h => by
      have := h.sl8; simpa using this
    have HB2 : Hid (bv (List.replicate m (0 : Int)).reverse = N) := hB1.2.2
    have hsl6 : ∀ (w' : World) (a : Option Addr) (c : Nat), Sl .u8 w' (.slice a 0 c) [] := fun w' a c => ⟨a, c, rfl, Nat.zero_le _, .inl rfl⟩
    have HN0 : Hid (bv ([] : List Int).reverse = N) := HN.out
    clear hB1 hbyt hsl3 hsl4 hml hmt HB HZ h0 HN
    go_enter Try.func7, Try.ntmps7
    go_wp2_with (first
      | (go_at_call 21; replace hAb := hAb; refine (FromV _ _ (hsl5 _ _ hAb) uz (by simp; omega) N HB2.out).mono ?_; rintro e w' ⟨d, rfl, hOd, hB⟩; have hd := hOd.sl; replace ha := below_sl hB ha; replace hAb := below_arr hB hAb.lt hAb; replace hBt := grow0 hBt hB)
      | (go_at_call 21; refine (FromV _ [] (hsl6 _ _ _) ub (by simp) N HN0.out).mono ?_; rintro e w' ⟨r, rfl, hO, hB⟩; have ha := hO.sl; replace hBt := grow0 hBt hB)
      | (go_at_call 22; refine (hbyt0 _ _ ha).mono ?_; rintro e w' ⟨bb, rfl, hAb, hB⟩; replace ha := below_sl hB ha; replace hBt := grow0 hBt hB)
      | (go_at_call 14; refine (Same_any _ _ _ ha hd hnl).mono ?_; rintro e w' ⟨rfl, hB⟩; replace hAb := below_arr hB hAb.lt hAb; replace hBt := grow0 hBt hB)
      | (go_at_call 23; refine (SameBytes_any _ _ [] (hsl6 _ _ _) (hsl6 _ _ _) (by simp)).mono ?_; rintro e w' ⟨rfl, hB⟩; replace hBt := grow0 hBt hB)
      | (go_at_call 13; refine (num_any _ _).mono ?_; rintro e w' ⟨rfl, rfl⟩)
      | (go_at_call 9; refine (live_any _).mono ?_; rintro e w' ⟨rfl, hB⟩; replace hBt := grow0 hBt hB))
    go_ret
    exact ⟨rfl, hBt⟩
  · have hne : ¬ bs.length + m = m := by omega
    go_enter Try.func7, Try.ntmps7
    go_wp2_with (first
      | (go_at_call 21; replace hAb := hAb; refine (FromV _ _ (hsl3 _ _ hAb) uz (by have := HZ.out; omega) N HB.out.2.2).mono ?_; rintro e w' ⟨d, rfl, hOd, hB⟩; have hd := hOd.sl; replace ha := below_sl hB ha; replace hb := below_sl hB hb; replace hAb := below_arr hB hAb.lt hAb; replace hBt := grow0 hBt hB)
      | (go_at_call 21; refine (FromV _ bs hb ub (by omega) N HN.out).mono ?_; rintro e w' ⟨r, rfl, hO, hB⟩; have ha := hO.sl; replace hb := below_sl hB hb; replace hBt := grow0 hBt hB)
      | (go_at_call 22; refine (hbyt _ _ ha).mono ?_; rintro e w' ⟨bb, rfl, hAb, hB⟩; replace ha := below_sl hB ha; replace hb := below_sl hB hb; replace hBt := grow0 hBt hB)
      | (go_at_call 14; refine (Same_any _ _ _ ha hd hnl).mono ?_; rintro e w' ⟨rfl, hB⟩; replace hb := below_sl hB hb; replace hAb := below_arr hB hAb.lt hAb; replace hBt := grow0 hBt hB)
      | (go_at_call 23; refine (SameBytes_any _ _ bs (hsl4 _ _ _ hAb (by omega)) hb (by omega)).mono ?_; rintro e w' ⟨rfl, hB⟩; replace hBt := grow0 hBt hB)
      | (go_at_call 13; refine (num_any _ _).mono ?_; rintro e w' ⟨rfl, rfl⟩)
      | (go_at_call 9; refine (live_any _).mono ?_; rintro e w' ⟨rfl, hB⟩; replace hBt := grow0 hBt hB))
    go_ret
    exact ⟨rfl, hBt⟩
end Go.Proofs.Ytcbdjgjaeopekab
