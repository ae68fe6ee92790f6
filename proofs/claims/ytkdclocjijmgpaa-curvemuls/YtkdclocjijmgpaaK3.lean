/-
  The walks of difference, Trim, Small, fitting.
-/
import Derived.Deep.CutRange
import Derived.Test.YtkdclocjijmgpaaK2
namespace Go.Proofs.Ytkdclocjijmgpaa.Nt
open Go.RowKit

theorem borrow_in {i n : Nat} {s t : Int} (h0 : 0 ≤ t) (h : s - 4294967296 ^ i * 1 = t) (hs : s < 4294967296 ^ n) : i < n := by
  apply Classical.byContradiction; intro hc
  have := pow_mono (i := n) (j := i) (by omega)
  omega

theorem diff_start {X Y Z : List Int} {carry : Int} {w : World} {blk : Nat} (uX : U32s X) (uY : U32s Y) (lXY : Y.length ≤ X.length) (uZ : U32s Z) (lZ : Z.length = Y.length) (hc0 : 0 ≤ carry)
    (heq : val Z + 1 * val Y = val (((List.take 0 (List.replicate X.length (0 : Int)) ++ (X.take X.length ++ (List.replicate X.length 0).drop (0 + X.length))).drop 0).take Y.length) + 4294967296 ^ Y.length * carry)
    (hA : Arr .u32 45 w blk ((List.take 0 (List.replicate X.length (0 : Int)) ++ (X.take X.length ++ (List.replicate X.length 0).drop (0 + X.length))).take 0 ++ Z ++ (List.take 0 (List.replicate X.length (0 : Int)) ++ (X.take X.length ++ (List.replicate X.length 0).drop (0 + X.length))).drop (0 + Z.length))) :
    ∃ S, Arr .u32 45 w blk S ∧ U32s S ∧ S.length = X.length ∧ val S - 4294967296 ^ Y.length * carry = val X - val Y ∧ (carry = 0 ∨ carry = 1) := by
  have e1 : List.take 0 (List.replicate X.length (0 : Int)) ++ (X.take X.length ++ (List.replicate X.length 0).drop (0 + X.length)) = X := by simp
  rw [e1] at heq hA
  simp only [List.take_zero, List.nil_append, Nat.zero_add, List.drop_zero] at heq hA
  have hsplit : val X = val (X.take Y.length) + 4294967296 ^ Y.length * val (X.drop Y.length) := by
    conv => lhs; rw [← List.take_append_drop Y.length X]
    rw [val_append, List.length_take, Nat.min_eq_left (by omega)]
  refine ⟨_, hA, uZ.append (uX.drop _), by simp; omega, ?_, ?_⟩
  · rw [val_append, lZ]; omega
  · have h1 := val_nonneg (uX.take Y.length)
    have h2 := val_lt uY; have h3 := val_lt uZ; have hp := pow_pos32 Y.length
    rw [lZ] at h3
    have h4 : 4294967296 ^ Y.length * carry < 4294967296 ^ Y.length * 2 := by omega
    have h5 := Int.lt_of_mul_lt_mul_left h4 (by omega)
    omega

set_option maxHeartbeats 1000000 in
theorem difference_any (X Y : List Int) (v u : Value) (w : World) (hX : Sl .u32 w v X) (hY : Sl .u32 w u Y) (uX : U32s X) (uY : U32s Y) (lX : X.length ≤ 1099511627776) (lXY : Y.length ≤ X.length) (hle : val Y ≤ val X) :
    Calls Try.prog 93 #[v, u] w fun e w' => ∃ r, e = .returned r ∧ Own w.heap.size w' r (lim (val X - val Y).toNat) ∧ Below w.heap.size w w' := by
  obtain ⟨aX, cX, rfl, hcX⟩ := hX.len
  obtain ⟨aY, cY, rfl, hcY⟩ := hY.len
  obtain ⟨tot, htot⟩ : ∃ tot, val X - val Y = tot := ⟨_, rfl⟩
  rw [htot]
  have h0 : 0 ≤ tot := by omega
  have HT : Hid (val X - val Y = tot) := htot
  clear htot hle
  go_enter Try.func93, Try.ntmps93
  go_wp2_with (first
      | (at_make; refine wpList_mk _ rfl _ _ 22 rfl .u32 45 4 Try.und32 Try.info32 _ X.length rfl rfl (by omega) (by omega) (by omega) ?_; intro w1 hA1 hB1)
      | (refine wpList_cp rfl (.tmp 11) (.tmp 12) 22 rfl .u32 45 Try.und32 Try.one32 _ 0 X.length X.length _ X hA1 _ rfl rfl (below_sl hB1 hX) X.length (nmin (by omega)) (by simp) ?_; intro w2 hA2 hU2)
      | (go_at_call 101; refine (takeTimes_any _ Y 1 _ 0 _ _ _ _ hA2 (by simpa using uX) ⟨by decide, by decide⟩ uY (below_sl (hU2.below hB1 (Nat.le_of_lt hA1.lt) (Nat.le_refl _)) hY) (hY.ne (Nat.le_refl _)) (by simp; omega) (by omega) (by omega)).mono ?_; rintro e w3 ⟨Z, carry, rfl, hcar, hZ, hZl, hA3, hU3, heq⟩))
  obtain ⟨S, hAS, huS, hlS, hvS, hcar1⟩ := diff_start uX uY lXY hZ hZl hcar.1 heq hA3
  have hB3 : Below w.heap.size w w3 := hU3.below (hU2.below hB1 (Nat.le_of_lt hA1.lt) (Nat.le_refl _)) (Nat.le_of_lt (hA2.lt)) (Nat.le_refl _)
  rw [HT.out] at hvS
  clear hA1 hA2 hA3 hU2 hU3 hB1 heq hZ hZl HT hX hY uX uY hcX hcY
  go_loopw [6, 7] (fun cv iv wr => ∃ (i : Nat) (cr : Int) (S : List Int), iv = .int .i64 i ∧ cv = .int .u32 cr ∧ (cr = 0 ∨ cr = 1) ∧ Arr .u32 45 wr w.heap.size S ∧ U32s S ∧ S.length = X.length ∧ Below w.heap.size w wr ∧ val S - 4294967296 ^ i * cr = tot ∧ i ≤ X.length)
      (fun _ iv _ => X.length + 1 - (intOf iv).toNat)
  case atStart => exact ⟨Y.length, carry, S, rfl, rfl, hcar1, hAS, huS, hlS, hB3, hvS, by omega⟩
  case round =>
      clear hAS huS hlS hvS hB3 hcar1 hcar
      obtain ⟨i, cr, S, rfl, rfl, hcr, hAS, huS, hlS, hB3, hvS, hiX⟩ := hrel
      rcases hcr with rfl | rfl
      · have HS : Hid (Arr .u32 45 wr w.heap.size S ∧ U32s S ∧ S.length = X.length ∧ Below w.heap.size w wr ∧ val S - 4294967296 ^ i * 0 = tot) := ⟨hAS, huS, hlS, hB3, hvS⟩
        have hsl := hAS.sl
        rw [hlS] at hsl
        have hcut := cut_any S (some ⟨w.heap.size, 0, none⟩) X.length wr (by rw [hlS]; exact hsl) (by omega)
        rw [hlS] at hcut
        clear hAS huS hB3 hvS hsl hlS
        go_wp2_with (go_at_call 77; refine hcut.mono ?_; rintro e w4 ⟨rfl, rfl⟩)
        go_ret
        obtain ⟨hAS, huS, hlS, hB3, hvS⟩ := HS.out
        refine ⟨_, rfl, ?_, hB3⟩
        have := Own.cut (B := w.heap.size) hAS huS (Nat.le_refl _) (by omega)
        rw [hlS] at this
        rw [← hvS]; simpa using this
      · have hi := borrow_in h0 hvS (by have := val_lt huS; rw [hlS] at this; exact this)
        obtain ⟨z, hz⟩ : ∃ z, S.getD i 0 = z := ⟨_, rfl⟩
        have uz : U32 z := hz ▸ huS.at i
        obtain ⟨z1, z2⟩ := uz
        have hcell : wr.cell? ⟨w.heap.size, i, none⟩ = some (.int .u32 z) := by rw [← hz]; exact hAS.cell i (by omega)
        have hfz : wr.frozen? ⟨w.heap.size, i, none⟩ = false := hAS.frozen i
        have HS : Hid (Arr .u32 45 wr w.heap.size S ∧ U32s S ∧ S.length = X.length ∧ Below w.heap.size w wr ∧ val S - 4294967296 ^ i * 1 = tot ∧ S.getD i 0 = z) := ⟨hAS, huS, hlS, hB3, hvS, hz⟩
        clear hAS huS hlS hB3 hvS hz
        by_cases hzz : z = 0
        · subst hzz
          go_wp2
          go_roundw
          case rel =>
            obtain ⟨hAS, huS, hlS, hB3, hvS, hz⟩ := HS.out
            refine ⟨i + 1, 1, S.set i 4294967295, by go_num, rfl, .inr rfl, hAS.set _ _, huS.set _ ⟨by decide, by decide⟩, by simpa using hlS, hB3.setCell (Nat.le_refl _) _, ?_, by omega⟩
            rw [val_set (by omega), hz, pow_succ32]; omega
          case measure => simp [intOf]; omega
        · go_wp2
          go_roundw
          case rel =>
            obtain ⟨hAS, huS, hlS, hB3, hvS, hz⟩ := HS.out
            refine ⟨i + 1, 0, S.set i (z - 1), by go_num, rfl, .inl rfl, hAS.set _ _, huS.set _ ⟨by omega, by omega⟩, by simpa using hlS, hB3.setCell (Nat.le_refl _) _, ?_, by omega⟩
            rw [val_set (by omega), hz]; simp; omega
          case measure => simp [intOf]; omega

/-- A whole block that is without a limb 0 at its end: the number itself. -/
theorem Own.whole {B : Nat} {w : World} {b : Nat} {S : List Int} (hA : Arr .u32 45 w b S) (hu : U32s S) (hB : B ≤ b) (hl : S.length ≤ 1125899906842624) :
    Own B w (.slice (some ⟨b, 0, none⟩) S.length S.length) S := .inr ⟨b, S, rfl, hB, hA, hu, Nat.le_refl _, List.take_length, hl⟩

set_option maxHeartbeats 400000 in
theorem Trim_any (X : List Int) (v : Value) (w : World) (hX : Sl .u32 w v X) (uX : U32s X) (lX : X.length ≤ 35184372088832) :
    Calls Try.prog 33 #[v] w fun e w' => ∃ r, e = .returned r ∧ Own w.heap.size w' r (lim (val X).toNat) ∧ Below w.heap.size w w' := by
  obtain ⟨aX, cX, rfl, hcX⟩ := hX.len
  have hs := sig_le X
  go_enter Try.func33, Try.ntmps33
  go_wp2_with (first
      | (go_at_call 62; refine (length_any X _ _ hX (by omega)).mono ?_; rintro e w' ⟨rfl, rfl⟩)
      | (at_make; refine wpList_mk _ rfl _ _ 22 rfl .u32 45 4 Try.und32 Try.info32 _ (sig X) rfl rfl (by omega) (by omega) (by omega) ?_; intro w1 hA1 hB1)
      | (refine wpList_cp rfl (.tmp 7) (.tmp 8) 22 rfl .u32 45 Try.und32 Try.one32 _ 0 (sig X) (sig X) _ X hA1 _ rfl rfl (below_sl hB1 hX) (sig X) (nmin2 (by omega)) (by simp) ?_; intro w2 hA2 hU2))
  go_ret
  have hB2 := hU2.below hB1 (Nat.le_of_lt hA1.lt) (Nat.le_refl _)
  refine ⟨_, rfl, ?_, hB2⟩
  have e1 : List.take 0 (List.replicate (sig X) (0 : Int)) ++ (X.take (sig X) ++ (List.replicate (sig X) 0).drop (0 + sig X)) = X.take (sig X) := by simp
  rw [e1] at hA2
  have := Own.whole (B := _) hA2 (uX.take _) (Nat.le_refl _) (by simp; omega)
  rw [List.length_take, Nat.min_eq_left hs, take_sig_lim uX] at this
  exact this

set_option maxHeartbeats 400000 in
theorem Small_any (n : Int) (h0 : 0 ≤ n) (h1 : n < 18446744073709551616) (w : World) :
    Calls Try.prog 53 #[.int .u64 n] w fun e w' => ∃ r, e = .returned r ∧ Own w.heap.size w' r (lim n.toNat) ∧ Below w.heap.size w w' := by
  go_enter Try.func53, Try.ntmps53
  have hA : Arr .u32 45 (w.alloc (.cells #[.int .u32 (n % 4294967296), .int .u32 (n / 4294967296)] 45)) w.heap.size [n % 4294967296, n / 4294967296] := by
    unfold Arr; rw [heap_alloc_new]; rfl
  have hu : U32s [n % 4294967296, n / 4294967296] := U32s.cons ⟨by omega, by omega⟩ (U32s.cons ⟨by omega, by omega⟩ U32s.nil)
  have hO := Own.cut (B := w.heap.size) hA hu (Nat.le_refl _) (by simp)
  have e : val [n % 4294967296, n / 4294967296] = n := by simp [val]; omega
  rw [e] at hO
  have hcut := cut_any _ _ _ _ hA.sl (by simp)
  clear hA hu e
  go_wp2_with (go_at_call 77; refine hcut.mono ?_; rintro e w4 ⟨rfl, rfl⟩)
  go_ret
  exact ⟨_, rfl, hO, (Below.refl _ _).alloc (Nat.le_refl _) _⟩

theorem fitting_any (a : Option Addr) (n c : Nat) (w : World) :
    Calls Try.prog 91 #[.slice a n c] w fun e w' => e = .returned (if 512 < n then .tuple #[.slice none 0 0, .int .i64 3] else .tuple #[.slice a n c, .int .i64 0]) ∧ w' = w := by
  by_cases h : 512 < n
  · go_enter Try.func91, Try.ntmps91
    go_wp2
    go_ret2
    exact ⟨rfl, rfl⟩
  · go_enter Try.func91, Try.ntmps91
    go_wp2
    go_ret2
    exact ⟨rfl, rfl⟩
end Go.Proofs.Ytkdclocjijmgpaa.Nt
/-
  The walk of Cmp: which of any two numbers is greater.
-/
namespace Go.Proofs.Ytkdclocjijmgpaa.Nt
open Go.RowKit

theorem val_ext : ∀ (xs ys : List Int), (∀ j, xs.getD j 0 = ys.getD j 0) → val xs = val ys
  | [], [], _ => rfl
  | x :: xs, [], h => by
    have h0 := h 0; have := val_ext xs [] (fun j => by simpa using h (j + 1)); simp at h0; simp [val] at this ⊢; omega
  | [], y :: ys, h => by
    have h0 := h 0; have := val_ext [] ys (fun j => by simpa using h (j + 1)); simp at h0; simp [val] at this ⊢; omega
  | x :: xs, y :: ys, h => by
    have h0 := h 0; have := val_ext xs ys (fun j => by simpa using h (j + 1)); simp at h0; simp [val]; omega
theorem getD_tail (xs : List Int) (j : Nat) : xs.tail.getD j 0 = xs.getD (j + 1) 0 := by cases xs <;> simp
theorem val_head_tail (xs : List Int) : val xs = xs.getD 0 0 + 4294967296 * val xs.tail := by cases xs <;> simp [val]
theorem _root_.Go.Proofs.Ytkdclocjijmgpaa.U32s.tl {xs : List Int} (h : U32s xs) : U32s xs.tail := fun y hy => h y (List.mem_of_mem_tail hy)
theorem val_lt_of (i : Nat) : ∀ (xs ys : List Int), U32s xs → U32s ys → (∀ j, i < j → xs.getD j 0 = ys.getD j 0) → xs.getD i 0 < ys.getD i 0 → val xs < val ys := by
  induction i with
  | zero =>
    intro xs ys ux uy h hlt
    have := val_ext xs.tail ys.tail (fun j => by rw [getD_tail, getD_tail]; exact h (j + 1) (by omega))
    rw [val_head_tail xs, val_head_tail ys]; omega
  | succ i ih =>
    intro xs ys ux uy h hlt
    have := ih xs.tail ys.tail ux.tl uy.tl (fun j hj => by rw [getD_tail, getD_tail]; exact h (j + 1) (by omega)) (by rw [getD_tail, getD_tail]; exact hlt)
    have h1 := ux.at 0; have h2 := uy.at 0
    unfold U32 at h1 h2
    rw [val_head_tail xs, val_head_tail ys]; omega
theorem sig_zero {xs : List Int} {j : Nat} (h : sig xs ≤ j) : xs.getD j 0 = 0 := by
  induction xs generalizing j with
  | nil => simp
  | cons x xs ih =>
    simp only [sig] at h
    split at h
    · rename_i h1
      split at h
      · rename_i h2
        cases j with
        | zero => simpa using h2
        | succ j => rw [List.getD_cons_succ]; exact ih (by omega)
      · cases j with
        | zero => omega
        | succ j => rw [List.getD_cons_succ]; exact ih (by omega)
    · cases j with
      | zero => omega
      | succ j => rw [List.getD_cons_succ]; exact ih (by omega)
theorem sig_pos {xs : List Int} (hu : U32s xs) (h : 0 < sig xs) : 0 < xs.getD (sig xs - 1) 0 := by
  have h1 := sig_last h; have h2 := hu.at (sig xs - 1); unfold U32 at h2; omega
theorem val_lt_of_sig {xs ys : List Int} (ux : U32s xs) (uy : U32s ys) (h : sig xs < sig ys) : val xs < val ys := by
  refine val_lt_of (sig ys - 1) xs ys ux uy (fun j hj => by rw [sig_zero (by omega), sig_zero (by omega)]) ?_
  rw [sig_zero (xs := xs) (by omega)]; exact sig_pos uy (by omega)

def cmpI (x y : Int) : Int := if x < y then -1 else if y < x then 1 else 0

/-- 'the slice v has k significant limbs'. -/
def Len (w : World) (v : Value) (k : Nat) : Prop := ∃ xs, Sl .u32 w v xs ∧ xs.length ≤ 1152921504606846976 ∧ sig xs = k
theorem length_len {w : World} (v : Value) (k : Nat) (h : Len w v k) : Calls Try.prog 62 #[v] w fun e w' => e = .returned (.int .i64 k) ∧ w = w' := by
  obtain ⟨xs, h1, h2, rfl⟩ := h; exact (length_any xs v w h1 h2).mono fun e w' h => ⟨h.1, h.2.symm⟩

set_option maxHeartbeats 1000000 in
theorem Cmp_any (xs ys : List Int) (v u : Value) (w : World) (hx : Sl .u32 w v xs) (hy : Sl .u32 w u ys) (ux : U32s xs) (uy : U32s ys) (lx : xs.length ≤ 1152921504606846976) (ly : ys.length ≤ 1152921504606846976) :
    Calls Try.prog 63 #[v, u] w fun e w' => e = .returned (.int .i64 (cmpI (val xs) (val ys))) ∧ Below w.heap.size w w' := by
  have hlx : Len w v (sig xs) := ⟨xs, hx, lx, rfl⟩
  have hly : Len w u (sig ys) := ⟨ys, hy, ly, rfl⟩
  obtain ⟨a1, c1, rfl, hc1, h1⟩ := id hx
  obtain ⟨a2, c2, rfl, hc2, h2⟩ := id hy
  have hsx := sig_le xs
  have hsy := sig_le ys
  by_cases hlt : sig xs < sig ys
  · have HC : Hid (val xs < val ys) := val_lt_of_sig ux uy hlt
    go_enter Try.func63, Try.ntmps63
    go_wp2_with (go_at_call 62; refine (length_len _ _ (by assumption)).mono ?_; rintro e w' ⟨rfl, rfl⟩)
    go_ret
    exact ⟨ret_int (by unfold cmpI; rw [if_pos HC.out]), Below.refl _ _⟩
  by_cases hgt : sig ys < sig xs
  · have HC : Hid (val ys < val xs) := val_lt_of_sig uy ux hgt
    go_enter Try.func63, Try.ntmps63
    go_wp2_with (go_at_call 62; refine (length_len _ _ (by assumption)).mono ?_; rintro e w' ⟨rfl, rfl⟩)
    go_ret
    exact ⟨ret_int (by unfold cmpI; rw [if_neg (by have := HC.out; omega), if_pos HC.out]), Below.refl _ _⟩
  obtain ⟨n, hn⟩ : ∃ n, sig xs = n := ⟨_, rfl⟩
  have hn2 : sig ys = n := by omega
  rw [hn] at hlx
  rw [hn2] at hly
  clear hlt hgt
  have HZ : Hid (∀ j, n ≤ j → xs.getD j 0 = ys.getD j 0) := fun j hj => by rw [sig_zero (by omega), sig_zero (by omega)]
  have hnx : n ≤ xs.length := by omega
  have hny : n ≤ ys.length := by omega
  clear hsx hsy hn hn2
  by_cases hn0 : n = 0
  · subst hn0
    have HE : Hid (val xs = val ys) := val_ext _ _ (fun j => HZ.out j (Nat.zero_le _))
    go_enter Try.func63, Try.ntmps63
    go_wp2_with (go_at_call 62; refine (length_len _ _ (by assumption)).mono ?_; rintro e w' ⟨rfl, rfl⟩)
    go_loop [22] (fun i => i = .int .i64 0) (fun _ => 0)
    case atStart => rfl
    case round =>
      subst hrel
      go_wp2
      go_ret
      exact ⟨ret_int (by unfold cmpI; rw [HE.out]; simp), Below.refl _ _⟩
  rcases h1 with rfl | ⟨b1, o1, rfl, hb1, hr1⟩
  · simp at hnx; omega
  rcases h2 with rfl | ⟨b2, o2, rfl, hb2, hr2⟩
  · simp at hny; omega
  go_enter Try.func63, Try.ntmps63
  go_wp2_with (go_at_call 62; refine (length_len _ _ (by assumption)).mono ?_; rintro e w' ⟨rfl, rfl⟩)
  go_loopw [22] (fun i wr => ∃ k : Nat, k ≤ n ∧ i = .int .i64 k ∧ (∀ j, n - k ≤ j → xs.getD j 0 = ys.getD j 0) ∧ Below w.heap.size w wr) (fun i _ => n - (intOf i).toNat)
  case atStart => exact ⟨0, Nat.zero_le _, rfl, by simpa using HZ.out, Below.refl _ _⟩
  case round =>
    obtain ⟨k, hk, rfl, hz, hB⟩ := hrel
    by_cases hkn : k < n
    · obtain ⟨m, hm⟩ : ∃ m, m = n - 1 - k := ⟨_, rfl⟩
      have hcx : wr.cell? ⟨b1, o1 + (n - 1 - k), none⟩ = some (.int .u32 (xs.getD (n - 1 - k) 0)) := (below_rd hB hb1 hr1) _ (by omega)
      have hcy : wr.cell? ⟨b2, o2 + (n - 1 - k), none⟩ = some (.int .u32 (ys.getD (n - 1 - k) 0)) := (below_rd hB hb2 hr2) _ (by omega)
      obtain ⟨x, hxk⟩ : ∃ x, xs.getD (n - 1 - k) 0 = x := ⟨_, rfl⟩
      obtain ⟨y, hyk⟩ : ∃ y, ys.getD (n - 1 - k) 0 = y := ⟨_, rfl⟩
      rw [hxk] at hcx
      rw [hyk] at hcy
      have hidx : ((n : Int) - 1 - k).toNat = n - 1 - k := by omega
      have HH : Hid (xs.getD (n - 1 - k) 0 = x ∧ ys.getD (n - 1 - k) 0 = y ∧ (∀ j, n - k ≤ j → xs.getD j 0 = ys.getD j 0) ∧ Below w.heap.size w wr) := ⟨hxk, hyk, hz, hB⟩
      clear hxk hyk hz hB hr1 hr2 hm hx hy hlx hly HZ
      by_cases hxy : x < y
      · go_wp2
        go_quiet (fail)
        go_wp2
        go_ret
        obtain ⟨hxk, hyk, hz, hB⟩ := HH.out
        have := val_lt_of (n - 1 - k) xs ys ux uy (fun j hj => hz j (by omega)) (by rw [hxk, hyk]; exact hxy)
        exact ⟨ret_int (by unfold cmpI; rw [if_pos this]), hB.trans ⟨rfl, rfl, rfl, Nat.le_refl _, fun _ _ => rfl⟩⟩
      by_cases hyx : y < x
      · go_wp2
        go_quiet (fail)
        go_wp2
        go_quiet (fail)
        go_wp2
        go_ret
        obtain ⟨hxk, hyk, hz, hB⟩ := HH.out
        have := val_lt_of (n - 1 - k) ys xs uy ux (fun j hj => (hz j (by omega)).symm) (by rw [hxk, hyk]; exact hyx)
        exact ⟨ret_int (by unfold cmpI; rw [if_neg (by omega), if_pos this]), hB.trans ⟨rfl, rfl, rfl, Nat.le_refl _, fun _ _ => rfl⟩⟩
      · go_wp2
        go_quiet (fail)
        go_wp2
        go_quiet (fail)
        go_wp2
        go_roundw
        case rel =>
          obtain ⟨hxk, hyk, hz, hB⟩ := HH.out
          refine ⟨k + 1, by omega, by go_num, fun j hj => ?_, hB.trans ⟨rfl, rfl, rfl, Nat.le_refl _, fun _ _ => rfl⟩⟩
          by_cases hj2 : n - k ≤ j
          · exact hz j hj2
          · have : j = n - 1 - k := by omega
            subst this; rw [hxk, hyk]; omega
        case measure => simp [intOf]; omega
    · have HE : Hid (val xs = val ys) := val_ext _ _ (fun j => hz j (by omega))
      have HB : Hid (Below w.heap.size w wr) := hB
      clear hz hB
      go_wp2
      go_ret
      exact ⟨ret_int (by unfold cmpI; rw [HE.out]; simp), HB.out⟩
end Go.Proofs.Ytkdclocjijmgpaa.Nt
/-
  The walk of product: the product of any two numbers, in new memory.
-/
namespace Go.Proofs.Ytkdclocjijmgpaa.Nt
open Go.RowKit

theorem mid_val {S Z : List Int} {i : Nat} (h : i + Z.length ≤ S.length) :
    val (S.take i ++ Z ++ S.drop (i + Z.length)) = val S + 4294967296 ^ i * (val Z - val ((S.drop i).take Z.length)) := by
  have e : val S = val (S.take i) + 4294967296 ^ i * (val ((S.drop i).take Z.length) + 4294967296 ^ Z.length * val (S.drop (i + Z.length))) := by
    conv => lhs; rw [← List.take_append_drop i S, ← List.take_append_drop Z.length (S.drop i)]
    rw [val_append, val_append, List.length_take, List.length_take, Nat.min_eq_left (by omega), Nat.min_eq_left (by simp; omega), List.drop_drop]
  rw [e, List.append_assoc, val_append, val_append, List.length_take, Nat.min_eq_left (by omega), Int.mul_sub, Int.mul_add, Int.mul_add]; omega
theorem mid_above {S Z : List Int} {i j : Nat} (h : i + Z.length ≤ S.length) (hj : i + Z.length ≤ j) : (S.take i ++ Z ++ S.drop (i + Z.length)).getD j 0 = S.getD j 0 := by
  have h1 : (S.take i ++ Z).length = i + Z.length := by simp; omega
  rw [List.getD_eq_getElem?_getD, List.getElem?_append_right (by omega), h1, List.getElem?_drop, List.getD_eq_getElem?_getD]
  congr 2; omega
theorem mid_u32 {S Z : List Int} {i : Nat} (hS : U32s S) (hZ : U32s Z) : U32s (S.take i ++ Z ++ S.drop (i + Z.length)) := ((hS.take i).append hZ).append (hS.drop _)

set_option maxHeartbeats 1000000 in
theorem product_any (X Y : List Int) (v u : Value) (w : World) (hX : Sl .u32 w v X) (hY : Sl .u32 w u Y) (uX : U32s X) (uY : U32s Y) (lX : X.length ≤ 1073741824) (lY : Y.length ≤ 1073741824) :
    Calls Try.prog 99 #[v, u] w fun e w' => ∃ r, e = .returned r ∧ Own w.heap.size w' r (lim (val X * val Y).toNat) ∧ Below w.heap.size w w' := by
  obtain ⟨aX, cX, rfl, hcX, hXr⟩ := id hX
  obtain ⟨aY, cY, rfl, hcY⟩ := hY.len
  have hfin : X.take X.length = X := List.take_length
  go_enter Try.func99, Try.ntmps99
  go_wp2_with (at_make; refine wpList_mk _ rfl _ _ 22 rfl .u32 45 4 Try.und32 Try.info32 _ (X.length + Y.length) rfl rfl (by omega) (by omega) (by omega) ?_; intro w1 hA1 hB1)
  go_loopw [15] (fun iv wr => ∃ (i : Nat) (S : List Int), iv = .int .i64 i ∧ i ≤ X.length ∧ Arr .u32 45 wr w.heap.size S ∧ U32s S ∧ S.length = X.length + Y.length ∧ Below w.heap.size w wr ∧ val S = val (X.take i) * val Y ∧ ∀ j, i + Y.length ≤ j → S.getD j 0 = 0)
      (fun iv _ => X.length - (intOf iv).toNat)
  case atStart => exact ⟨0, _, rfl, Nat.zero_le _, hA1, U32s.zeros _, by simp, hB1, by simp [val_zeros, val], fun j _ => by simp [List.getD, List.getElem?_replicate]; split <;> rfl⟩
  case round =>
    clear hA1 hB1
    obtain ⟨i, S, rfl, hi, hA, huS, hlS, hB, hv, hz⟩ := hrel
    by_cases hlt : i < X.length
    · rcases hXr with rfl | ⟨b, o, rfl, hb, hr⟩
      · simp at hlt
      obtain ⟨x, hx⟩ : ∃ x, X.getD i 0 = x := ⟨_, rfl⟩
      have ux : U32 x := hx ▸ uX.at i
      have hcx : wr.cell? ⟨b, o + i, none⟩ = some (.int .u32 x) := by rw [← hx]; exact (below_rd hB hb hr) i hlt
      have hcall : ∀ q, Calls Try.prog 100 #[.slice (some ⟨w.heap.size, i, none⟩) (X.length + Y.length - i) (X.length + Y.length - i), .slice aY Y.length cY, .int .u32 x] (wr.drewN q) fun e w' =>
          ∃ S' carry, e = .returned (.int .u32 carry) ∧ w'.cell? ⟨w.heap.size, i + Y.length, none⟩ = some (.int .u32 0) ∧ w'.frozen? ⟨w.heap.size, i + Y.length, none⟩ = false ∧ Hid (U32 carry ∧ U32s S' ∧ S'.length = X.length + Y.length ∧ Arr .u32 45 w' w.heap.size S' ∧ Below w.heap.size w w' ∧
            val S' + 4294967296 ^ (i + Y.length) * carry = val (X.take i) * val Y + 4294967296 ^ i * (x * val Y) ∧ ∀ j, i + Y.length ≤ j → S'.getD j 0 = 0) := by
        intro q
        have hBq : Below w.heap.size w (wr.drewN q) := hB.trans ⟨rfl, rfl, rfl, Nat.le_refl _, fun _ _ => rfl⟩
        refine (addTimes_any S Y x w.heap.size i _ _ _ (wr.drewN q) hA huS ux uY (below_sl hBq hY) (hY.ne (Nat.le_refl _)) (by omega) (by omega) (by omega)).mono ?_
        rintro e w' ⟨Z, carry, rfl, hc, hZ, hZl, hA', hU', heq⟩
        have hfit : i + Z.length ≤ S.length := by omega
        have hz2 : (S.take i ++ Z ++ S.drop (i + Z.length)).getD (i + Y.length) 0 = 0 := by rw [mid_above hfit (by omega)]; exact hz _ (Nat.le_refl _)
        refine ⟨_, carry, rfl, by rw [hA'.cell _ (by rw [mid_len _ _ _ hfit]; omega), hz2], hA'.frozen _, show _ ∧ _ from ⟨hc, mid_u32 huS hZ, by rw [mid_len _ _ _ hfit]; exact hlS, hA', hU'.below hBq (Nat.le_of_lt hA.lt) (Nat.le_refl _), ?_, fun j hj => by rw [mid_above hfit (by omega)]; exact hz j hj⟩⟩
        rw [mid_val hfit, hv, hZl, Int.pow_add, Int.mul_assoc]
        have : val Z - val ((S.drop i).take Y.length) = x * val Y - 4294967296 ^ Y.length * carry := by omega
        rw [this, Int.mul_sub]; omega
      have HV : Hid (X.getD i 0 = x ∧ Below w.heap.size w wr) := ⟨hx, hB⟩
      clear hA huS hv hz hr hX hY uY hx hB
      go_upto_region 5 with (fail)
      go_region_with (go_at_call 100; refine (hcall _).mono ?_; rintro e w2 ⟨S', carry, rfl, hcl2, hfz2, HS2⟩)
      all_goals
        go_wp2
        go_roundw
        case rel =>
          obtain ⟨hc, hS', hSl', hA', hB', heq', hz'⟩ := HS2.out
          obtain ⟨hx, _⟩ := HV.out
          refine ⟨i + 1, S'.set (i + Y.length) carry, by go_num, by omega, (by exact hA'.set _ _), hS'.set _ hc, by simpa using hSl', hB'.setCell (Nat.le_refl _) _, ?_, fun j hj => ?_⟩
          · rw [val_set (by omega), hz' _ (Nat.le_refl _), val_take_succ _ _ hlt, hx, Int.add_mul, Int.mul_assoc, Int.sub_zero]; exact heq'
          · rw [List.getD_eq_getElem?_getD, List.getElem?_set_ne (by omega), ← List.getD_eq_getElem?_getD]; exact hz' j (by omega)
        case measure => simp [intOf]; omega
    · have hin : i = X.length := by omega
      have hsl := hA.sl
      rw [hlS] at hsl
      have hcut := cut_any S (some ⟨w.heap.size, 0, none⟩) (X.length + Y.length) wr (by rw [hlS]; exact hsl) (by omega)
      rw [hlS] at hcut
      have HS : Hid (Arr .u32 45 wr w.heap.size S ∧ U32s S ∧ S.length = X.length + Y.length ∧ Below w.heap.size w wr ∧ val S = val (X.take i) * val Y ∧ i = X.length) := ⟨hA, huS, hlS, hB, hv, hin⟩
      clear hA huS hB hv hz hsl hlS hin
      go_wp2_with (go_at_call 77; refine hcut.mono ?_; rintro e w4 ⟨rfl, rfl⟩)
      go_ret
      obtain ⟨hA, huS, hlS, hB, hv, rfl⟩ := HS.out
      refine ⟨_, rfl, ?_, hB⟩
      have := Own.cut (B := w.heap.size) hA huS (Nat.le_refl _) (by omega)
      rw [hlS, hv, hfin] at this
      exact this
end Go.Proofs.Ytkdclocjijmgpaa.Nt
/-
  The walks of Add, Sub, Mul: sums, differences, products of any two numbers, or the error.
-/
namespace Go.Proofs.Ytkdclocjijmgpaa.Nt
open Go.RowKit

def trim (xs : List Int) : List Int := xs.take (sig xs)
theorem trim_val (xs : List Int) : val (trim xs) = val xs := val_take_sig xs
theorem trim_u32 {xs : List Int} (h : U32s xs) : U32s (trim xs) := h.take _
theorem trim_len (xs : List Int) : (trim xs).length = sig xs := by simp [trim, sig_le]
theorem trim_sig (xs : List Int) : sig (trim xs) = (trim xs).length := by rw [trim_len]; exact sig_take
theorem _root_.Go.Proofs.Ytkdclocjijmgpaa.Sl.trim {w : World} {a : Option Addr} {c : Nat} {xs : List Int} (h : Sl .u32 w (.slice a xs.length c) xs) : Sl .u32 w (.slice a (sig xs) c) (trim xs) := by
  obtain ⟨a', c', he, hc, h⟩ := h
  cases he
  refine ⟨a, c, by rw [trim_len], by rw [trim_len]; have := sig_le xs; omega, ?_⟩
  rcases h with rfl | ⟨b, off, rfl, hb, hr⟩
  · exact .inl rfl
  · exact .inr ⟨b, off, rfl, hb, hr.take _⟩

/-- cut, as a number: what it answers reads the trimmed list. -/
theorem cut_sl {w : World} (v : Value) (xs : List Int) (h : Sl .u32 w v xs) (hl : xs.length ≤ 1152921504606846976) :
    Calls Try.prog 77 #[v] w fun e w' => ∃ r, e = .returned r ∧ Sl .u32 w r (Go.Proofs.Ytkdclocjijmgpaa.Nt.trim xs) ∧ w = w' := by
  obtain ⟨a, c, rfl, _⟩ := h.len
  exact (cut_any xs a c w h hl).mono fun e w' ⟨h1, h2⟩ => ⟨_, h1, h.trim, h2.symm⟩

theorem tooLong_sl {w : World} (v u : Value) (xs ys : List Int) (h : Sl .u32 w v xs) (h' : Sl .u32 w u ys) (b : Bool) (hb : (decide (512 < xs.length) || decide (512 < ys.length)) = b) :
    Calls Try.prog 80 #[v, u] w fun e w' => e = .returned (.bool b) ∧ w = w' := by
  subst hb; exact (tooLong_any xs ys v u w h h').mono fun e w' ⟨h1, h2⟩ => ⟨h1, h2.symm⟩

def fit (L : List Int) : List Int × Int := if 512 < L.length then ([], 3) else (L, 0)
def addS (X Y : List Int) : List Int × Int := if 512 < X.length ∨ 512 < Y.length then ([], 3) else fit (lim (val X + val Y).toNat)
def mulS (X Y : List Int) : List Int × Int := if 512 < X.length ∨ 512 < Y.length then ([], 3) else fit (lim (val X * val Y).toNat)
def subS (X Y : List Int) : List Int × Int := if 512 < X.length ∨ 512 < Y.length then ([], 3) else if val X < val Y then ([], 10) else (lim (val X - val Y).toNat, 0)

/-- A number and an error, as two results. -/
def Two (B : Nat) (w : World) (e : Ending) (s : List Int × Int) : Prop := ∃ r, e = .returned (.tuple #[r, .int .i64 s.2]) ∧ Own B w r s.1

theorem Two.mk' {B : Nat} {w : World} {r : Value} {n : Int} {L : List Int} {s : List Int × Int} (h : Own B w r L) (hs : s = (L, n)) : Two B w (.returned (.tuple #[r, .int .i64 n])) s := by
  subst hs; exact ⟨r, rfl, h⟩
theorem Two.nil' {B : Nat} {w : World} {n : Int} {s : List Int × Int} (hs : s = ([], n)) : Two B w (.returned (.tuple #[.slice none 0 0, .int .i64 n])) s := by
  subst hs; exact ⟨_, rfl, .inl ⟨rfl, rfl⟩⟩

theorem fitting_own {w w0 : World} {B : Nat} (v : Value) (L : List Int) (h : Own B w v L) (hB : Below w0.heap.size w0 w) :
    Calls Try.prog 91 #[v] w fun e w' => ∃ r, e = .returned (.tuple #[r, .int .i64 (fit L).2]) ∧ Own B w' r (fit L).1 ∧ w = w' := by
  obtain ⟨a, c, rfl⟩ := h.ne
  refine (fitting_any a L.length c w).mono fun e w' ⟨h1, h2⟩ => ?_
  subst h2
  unfold fit
  by_cases hl : 512 < L.length
  · rw [if_pos hl] at h1 ⊢; exact ⟨_, h1, .inl ⟨rfl, rfl⟩, rfl⟩
  · rw [if_neg hl] at h1 ⊢; exact ⟨_, h1, h, rfl⟩

set_option maxHeartbeats 1000000 in
theorem Add_any (X Y : List Int) (v u : Value) (w : World) (hX : Sl .u32 w v X) (hY : Sl .u32 w u Y) (uX : U32s X) (uY : U32s Y) :
    Calls Try.prog 64 #[v, u] w fun e w' => Two w.heap.size w' e (addS X Y) ∧ Below w.heap.size w w' := by
  by_cases hlong : 512 < X.length ∨ 512 < Y.length
  · have hb : (decide (512 < X.length) || decide (512 < Y.length)) = true := by simpa using hlong
    have HL : Hid (512 < X.length ∨ 512 < Y.length) := hlong
    clear hlong
    go_enter Try.func64, Try.ntmps64
    go_wp2_with (go_at_call 80; refine (tooLong_sl v u X Y hX hY true hb).mono ?_; rintro e w' ⟨rfl, rfl⟩)
    go_ret2
    exact ⟨Two.nil' (by unfold addS; rw [if_pos HL.out]), Below.refl _ _⟩
  · have hb : (decide (512 < X.length) || decide (512 < Y.length)) = false := by simpa using hlong
    have uX' := trim_u32 uX
    have uY' := trim_u32 uY
    have lX : X.length ≤ 1152921504606846976 := by omega
    have lY : Y.length ≤ 1152921504606846976 := by omega
    have lX' : (trim X).length ≤ 1099511627776 := by have := sig_le X; rw [trim_len]; omega
    have lY' : (trim Y).length ≤ 1099511627776 := by have := sig_le Y; rw [trim_len]; omega
    have HL : Hid (¬ (512 < X.length ∨ 512 < Y.length)) := hlong
    clear hlong
    go_enter Try.func64, Try.ntmps64
    go_wp2_with (first
      | (go_at_call 80; refine (tooLong_sl v u X Y hX hY false hb).mono ?_; rintro e w' ⟨rfl, rfl⟩)
      | (go_at_call 77; refine (cut_sl _ _ (by assumption) (by assumption)).mono ?_; rintro e w' ⟨r, rfl, hr, rfl⟩)
      | (go_at_call 92; refine (sum_any (trim X) (trim Y) _ _ _ (by assumption) (by assumption) uX' uY' lX' lY').mono ?_; rintro e w1 ⟨s, rfl, hs, hB⟩)
      | (go_at_call 91; refine (fitting_own _ _ hs hB).mono ?_; rintro e w' ⟨t, rfl, ht, rfl⟩))
    go_ret2
    exact ⟨Two.mk' ht (by unfold addS; rw [if_neg HL.out, trim_val, trim_val]), hB⟩

set_option maxHeartbeats 1000000 in
theorem Mul_any (X Y : List Int) (v u : Value) (w : World) (hX : Sl .u32 w v X) (hY : Sl .u32 w u Y) (uX : U32s X) (uY : U32s Y) :
    Calls Try.prog 82 #[v, u] w fun e w' => Two w.heap.size w' e (mulS X Y) ∧ Below w.heap.size w w' := by
  by_cases hlong : 512 < X.length ∨ 512 < Y.length
  · have hb : (decide (512 < X.length) || decide (512 < Y.length)) = true := by simpa using hlong
    have HL : Hid (512 < X.length ∨ 512 < Y.length) := hlong
    clear hlong
    go_enter Try.func82, Try.ntmps82
    go_wp2_with (go_at_call 80; refine (tooLong_sl v u X Y hX hY true hb).mono ?_; rintro e w' ⟨rfl, rfl⟩)
    go_ret2
    exact ⟨Two.nil' (by unfold mulS; rw [if_pos HL.out]), Below.refl _ _⟩
  · have hb : (decide (512 < X.length) || decide (512 < Y.length)) = false := by simpa using hlong
    have uX' := trim_u32 uX
    have uY' := trim_u32 uY
    have lX : X.length ≤ 1152921504606846976 := by omega
    have lY : Y.length ≤ 1152921504606846976 := by omega
    have lX' : (trim X).length ≤ 1073741824 := by have := sig_le X; rw [trim_len]; omega
    have lY' : (trim Y).length ≤ 1073741824 := by have := sig_le Y; rw [trim_len]; omega
    have HL : Hid (¬ (512 < X.length ∨ 512 < Y.length)) := hlong
    clear hlong
    go_enter Try.func82, Try.ntmps82
    go_wp2_with (first
      | (go_at_call 80; refine (tooLong_sl v u X Y hX hY false hb).mono ?_; rintro e w' ⟨rfl, rfl⟩)
      | (go_at_call 77; refine (cut_sl _ _ (by assumption) (by assumption)).mono ?_; rintro e w' ⟨r, rfl, hr, rfl⟩)
      | (go_at_call 99; refine (product_any (trim X) (trim Y) _ _ _ (by assumption) (by assumption) uX' uY' lX' lY').mono ?_; rintro e w1 ⟨s, rfl, hs, hB⟩)
      | (go_at_call 91; refine (fitting_own _ _ hs hB).mono ?_; rintro e w' ⟨t, rfl, ht, rfl⟩))
    go_ret2
    exact ⟨Two.mk' ht (by unfold mulS; rw [if_neg HL.out, trim_val, trim_val]), hB⟩

theorem Cmp_sl {w : World} (v u : Value) (X Y : List Int) (h : Sl .u32 w v X) (h' : Sl .u32 w u Y) (uX : U32s X) (uY : U32s Y) (lX : X.length ≤ 1152921504606846976) (lY : Y.length ≤ 1152921504606846976) (c : Int) (hc : cmpI (val X) (val Y) = c) :
    Calls Try.prog 63 #[v, u] w fun e w' => e = .returned (.int .i64 c) ∧ Below w.heap.size w w' := by
  subst hc; exact Cmp_any X Y v u w h h' uX uY lX lY

theorem sig_le_of_val {X Y : List Int} (uX : U32s X) (uY : U32s Y) (h : val Y ≤ val X) : sig Y ≤ sig X := by
  apply Classical.byContradiction; intro hc
  have := val_lt_of_sig uX uY (by omega); omega

set_option maxHeartbeats 1000000 in
theorem Sub_any (X Y : List Int) (v u : Value) (w : World) (hX : Sl .u32 w v X) (hY : Sl .u32 w u Y) (uX : U32s X) (uY : U32s Y) :
    Calls Try.prog 65 #[v, u] w fun e w' => Two w.heap.size w' e (subS X Y) ∧ Below w.heap.size w w' := by
  by_cases hlong : 512 < X.length ∨ 512 < Y.length
  · have hb : (decide (512 < X.length) || decide (512 < Y.length)) = true := by simpa using hlong
    have HL : Hid (512 < X.length ∨ 512 < Y.length) := hlong
    clear hlong
    go_enter Try.func65, Try.ntmps65
    go_wp2_with (go_at_call 80; refine (tooLong_sl v u X Y hX hY true hb).mono ?_; rintro e w' ⟨rfl, rfl⟩)
    go_ret2
    exact ⟨Two.nil' (by unfold subS; rw [if_pos HL.out]), Below.refl _ _⟩
  have hb : (decide (512 < X.length) || decide (512 < Y.length)) = false := by simpa using hlong
  have lX : X.length ≤ 1152921504606846976 := by omega
  have lY : Y.length ≤ 1152921504606846976 := by omega
  have HL : Hid (¬ (512 < X.length ∨ 512 < Y.length)) := hlong
  by_cases hlt : val X < val Y
  · have hc : cmpI (val X) (val Y) = -1 := by unfold cmpI; rw [if_pos hlt]
    have HC : Hid (val X < val Y) := hlt
    clear hlong hlt
    go_enter Try.func65, Try.ntmps65
    go_wp2_with (first
      | (go_at_call 80; refine (tooLong_sl v u X Y hX hY false hb).mono ?_; rintro e w' ⟨rfl, rfl⟩)
      | (go_at_call 63; refine (Cmp_sl v u X Y hX hY uX uY lX lY _ hc).mono ?_; rintro e w1 ⟨rfl, hB⟩))
    go_ret2
    exact ⟨Two.nil' (by unfold subS; rw [if_neg HL.out, if_pos HC.out]), hB⟩
  · obtain ⟨c, hc, hc0⟩ : ∃ c, cmpI (val X) (val Y) = c ∧ 0 ≤ c := by
      unfold cmpI; rw [if_neg hlt]; split
      · exact ⟨1, rfl, by decide⟩
      · exact ⟨0, rfl, by decide⟩
    have HC : Hid (¬ val X < val Y) := hlt
    have uX' := trim_u32 uX
    have uY' := trim_u32 uY
    have lX' : (trim X).length ≤ 1099511627776 := by have := sig_le X; rw [trim_len]; omega
    have lXY : (trim Y).length ≤ (trim X).length := by rw [trim_len, trim_len]; exact sig_le_of_val uX uY (by omega)
    have hle : val (trim Y) ≤ val (trim X) := by rw [trim_val, trim_val]; omega
    clear hlong hlt
    go_enter Try.func65, Try.ntmps65
    go_wp2_with (first
      | (go_at_call 80; refine (tooLong_sl v u X Y hX hY false hb).mono ?_; rintro e w' ⟨rfl, rfl⟩)
      | (go_at_call 63; refine (Cmp_sl v u X Y hX hY uX uY lX lY _ hc).mono ?_; rintro e w1 ⟨rfl, hB⟩; have hX1 := below_sl hB hX; have hY1 := below_sl hB hY)
      | (go_at_call 77; refine (cut_sl _ _ (by assumption) (by assumption)).mono ?_; rintro e w' ⟨r, rfl, hr, rfl⟩)
      | (go_at_call 93; refine (difference_any (trim X) (trim Y) _ _ _ (by assumption) (by assumption) uX' uY' lX' lXY hle).mono ?_; rintro e w2 ⟨s, rfl, hs, hB2⟩))
    go_ret2
    rw [trim_val, trim_val] at hs
    exact ⟨Two.mk' (hs.mono hB.size) (by unfold subS; rw [if_neg HL.out, if_neg (by have := HC.out; omega)]), hB.trans (hB2.mono hB.size)⟩
end Go.Proofs.Ytkdclocjijmgpaa.Nt
/-
  The walk of divideByLimb: any number by a limb.
-/
namespace Go.Proofs.Ytkdclocjijmgpaa.Nt
open Go.RowKit

theorem or32 (l a : Int) (h0 : 0 ≤ l) (h1 : l < 4294967296) (a0 : 0 ≤ a) (a1 : a < 4294967296) : bits BinOp.or .u64 (l * 4294967296) a = l * 4294967296 + a := by
  obtain ⟨n, rfl⟩ := Int.eq_ofNat_of_zero_le h0
  obtain ⟨m, rfl⟩ := Int.eq_ofNat_of_zero_le a0
  have h := bits_or_u64_nat (n * 4294967296) m (by omega) (by omega)
  have e : n * 4294967296 ||| m = n * 4294967296 + m := by
    have := Nat.two_pow_add_eq_or_of_lt (i := 32) (b := m) (by omega) n
    rw [Nat.mul_comm n 4294967296]; exact this.symm
  rw [e] at h
  simpa using h

theorem quo_step (vs vx l b a q r : Int) (T : Int) (hT : T = l * 4294967296 + a) (hqr : T = q * b + r) (ih : vx = vs * b + l) : a + 4294967296 * vx = (q + 4294967296 * vs) * b + r := by
  rw [ih, Int.add_mul, Int.mul_assoc, Int.mul_add]; omega

theorem drop_set_self {S : List Int} {m : Nat} {z : Int} (h : m < S.length) : (S.set m z).drop m = z :: S.drop (m + 1) := by
  induction S generalizing m with
  | nil => simp at h
  | cons x S ih =>
    cases m with
    | zero => simp
    | succ m => simpa using ih (by simpa using h)

set_option maxHeartbeats 1000000 in
theorem divideByLimb_any (X : List Int) (d : Int) (v : Value) (w : World) (hX : Sl .u32 w v X) (uX : U32s X) (hd0 : 0 < d) (hd1 : d < 4294967296) (lX : X.length ≤ 1099511627776) :
    Calls Try.prog 102 #[v, .int .u32 d] w fun e w' => ∃ q r, e = .returned (.tuple #[q, r]) ∧ Own w.heap.size w' q (lim (val X / d).toNat) ∧ Own w.heap.size w' r (lim (val X % d).toNat) ∧ Below w.heap.size w w' := by
  obtain ⟨aX, cX, rfl, hcX, hXr⟩ := id hX
  go_enter Try.func102, Try.ntmps102
  go_wp2_with (at_make; refine wpList_mk _ rfl _ _ 22 rfl .u32 45 4 Try.und32 Try.info32 _ X.length rfl rfl (by omega) (by omega) (by omega) ?_; intro w1 hA1 hB1)
  go_loopw [6, 14] (fun lv iv wr => ∃ (k : Nat) (l : Int) (S : List Int), iv = .int .i64 k ∧ lv = .int .u64 l ∧ k ≤ X.length ∧ 0 ≤ l ∧ l < d ∧ Arr .u32 45 wr w.heap.size S ∧ U32s S ∧ S.length = X.length ∧ Below w.heap.size w wr ∧ val (X.drop (X.length - k)) = val (S.drop (X.length - k)) * d + l)
      (fun _ iv _ => X.length - (intOf iv).toNat)
  case atStart => exact ⟨0, 0, _, rfl, rfl, Nat.zero_le _, by decide, hd0, hA1, U32s.zeros _, by simp, hB1, by simp [val]⟩
  case round =>
    clear hA1 hB1
    obtain ⟨k, l, S, rfl, rfl, hk, hl0, hl1, hA, huS, hlS, hB, hv⟩ := hrel
    by_cases hlt : k < X.length
    · rcases hXr with rfl | ⟨b, o, rfl, hb, hr⟩
      · simp at hlt
      obtain ⟨m, hm⟩ : ∃ m, X.length - 1 - k = m := ⟨_, rfl⟩
      obtain ⟨a, ha⟩ : ∃ a, X.getD m 0 = a := ⟨_, rfl⟩
      have ua : U32 a := ha ▸ uX.at m
      have hca : wr.cell? ⟨b, o + m, none⟩ = some (.int .u32 a) := by rw [← ha]; exact (below_rd hB hb hr) m (by omega)
      obtain ⟨z, hcz⟩ : ∃ z, wr.cell? ⟨w.heap.size, m, none⟩ = some (.int .u32 z) := ⟨_, hA.cell m (by omega)⟩
      have hfz : wr.frozen? ⟨w.heap.size, m, none⟩ = false := hA.frozen m
      have hidx : ((X.length : Int) - 1 - k).toNat = m := by omega
      have hmi : ((X.length : Int) - 1 - k) = m := by omega
      obtain ⟨a0, a1⟩ := ua
      have hor := or32 l a hl0 (by omega) a0 a1
      have hq0 : 0 ≤ (l * 4294967296 + a) / d := Int.ediv_nonneg (by omega) (by omega)
      have hq1 : (l * 4294967296 + a) / d < 4294967296 := Int.ediv_lt_of_lt_mul hd0 (by omega)
      have hr0 : 0 ≤ (l * 4294967296 + a) % d := Int.emod_nonneg _ (by omega)
      have hr1 : (l * 4294967296 + a) % d < d := Int.emod_lt_of_pos _ hd0
      have HH : Hid (X.getD m 0 = a ∧ Arr .u32 45 wr w.heap.size S ∧ U32s S ∧ S.length = X.length ∧ Below w.heap.size w wr ∧ val (X.drop (X.length - k)) = val (S.drop (X.length - k)) * d + l ∧ X.length - 1 - k = m) := ⟨ha, hA, huS, hlS, hB, hv, hm⟩
      clear hA huS hlS hB hv ha hm hr hX uX
      go_wp2
      go_roundw
      case rel =>
        obtain ⟨ha, hA, huS, hlS, hB, hv, hm⟩ := HH.out
        have hdm : (l * 4294967296 + a) = (l * 4294967296 + a) / d * d + (l * 4294967296 + a) % d := by have := Int.mul_ediv_add_emod (l * 4294967296 + a) d; rw [Int.mul_comm] at this; omega
        refine ⟨k + 1, _, S.set m ((l * 4294967296 + a) / d), by go_num, rfl, by omega, hr0, hr1, hA.set _ _, huS.set _ ⟨hq0, hq1⟩, by simpa using hlS, hB.setCell (Nat.le_refl _) _, ?_⟩
        have e1 : X.length - (k + 1) = m := by omega
        have e2 : X.length - k = m + 1 := by omega
        rw [e2] at hv
        rw [e1, List.drop_eq_getElem_cons (show m < X.length by omega), drop_set_self (by omega)]
        simp only [val]
        have e3 : X[m]'(by omega) = a := by rw [← ha]; simp [show m < X.length by omega]
        rw [e3]
        exact quo_step _ _ l d a _ _ _ rfl hdm hv
      case measure => simp [intOf]; omega
    · have hkX : k = X.length := by omega
      have hsl := hA.sl
      rw [hlS] at hsl
      have hcut := cut_any S (some ⟨w.heap.size, 0, none⟩) X.length wr (by rw [hlS]; exact hsl) (by omega)
      rw [hlS] at hcut
      have HH : Hid (Arr .u32 45 wr w.heap.size S ∧ U32s S ∧ S.length = X.length ∧ Below w.heap.size w wr ∧ val (X.drop (X.length - k)) = val (S.drop (X.length - k)) * d + l ∧ k = X.length) := ⟨hA, huS, hlS, hB, hv, hkX⟩
      clear hA huS hlS hB hv hsl hkX
      go_wp2_with (first
        | (go_at_call 77; refine hcut.mono ?_; rintro e w' ⟨rfl, rfl⟩)
        | (go_at_call 53; refine (Small_any l hl0 (by omega) _).mono ?_; rintro e w2 ⟨r, rfl, hr, hB2⟩))
      go_ret2
      obtain ⟨hA, huS, hlS, hB, hv, rfl⟩ := HH.out
      simp only [Nat.sub_self, List.drop_zero] at hv
      have hO := Own.cut (B := w.heap.size) hA huS (Nat.le_refl _) (by omega)
      rw [hlS] at hO
      have e1 : val X / d = val S := by
        rw [hv, Int.add_comm, Int.add_mul_ediv_right _ _ (by omega), Int.ediv_eq_zero_of_lt hl0 hl1]; omega
      have e2 : val X % d = l := by
        rw [hv, Int.add_comm, Int.add_mul_emod_self_right, Int.emod_eq_of_lt hl0 hl1]
      refine ⟨_, _, rfl, ?_, ?_, hB.trans (hB2.mono hB.size)⟩
      · rw [e1]; exact hO.below hB2
      · rw [e2]; exact hr.mono hB.size
end Go.Proofs.Ytkdclocjijmgpaa.Nt
