/-
  The walk of Cmp: which of any two numbers is greater.
-/
import Derived.Test.YthkheocggcmooaaW4
namespace Go.Proofs.Ythkheocggcmooaa
open Go.RowKit

theorem val_ext : ∀ (xs ys : List Int), (∀ j, xs.getD j 0 = ys.getD j 0) → val xs = val ys
  | [], [], _ => rfl
  | x :: xs, [], h => by
    have h0 := h 0; have := val_ext xs [] (fun j => by simpa using h (j + 1)); simp at h0; simp [val] at this ⊢; omega
  | [], y :: ys, h => by
    have h0 := h 0; have := val_ext [] ys (fun j => by simpa using h (j + 1)); simp at h0; simp [val] at this ⊢; omega
  | x :: xs, y :: ys, h => by
    have h0 := h 0; have := val_ext xs ys (fun j => by simpa using h (j + 1)); simp at h0; simp [val]; omega
theorem getD_tail (xs : List Int) (j : Nat) : xs.tail.getD j 0 = xs.getD (j + 1) 0 := by cases xs <;> simp
theorem val_head_tail (xs : List Int) : val xs = xs.getD 0 0 + 4294967296 * val xs.tail := by cases xs <;> simp [val]
theorem U32s.tl {xs : List Int} (h : U32s xs) : U32s xs.tail := fun y hy => h y (List.mem_of_mem_tail hy)
theorem val_lt_of (i : Nat) : ∀ (xs ys : List Int), U32s xs → U32s ys → (∀ j, i < j → xs.getD j 0 = ys.getD j 0) → xs.getD i 0 < ys.getD i 0 → val xs < val ys := by
  induction i with
  | zero =>
    intro xs ys ux uy h hlt
    have := val_ext xs.tail ys.tail (fun j => by rw [getD_tail, getD_tail]; exact h (j + 1) (by omega))
    rw [val_head_tail xs, val_head_tail ys]; omega
  | succ i ih =>
    intro xs ys ux uy h hlt
    have := ih xs.tail ys.tail ux.tl uy.tl (fun j hj => by rw [getD_tail, getD_tail]; exact h (j + 1) (by omega)) (by rw [getD_tail, getD_tail]; exact hlt)
    have h1 := ux.at 0; have h2 := uy.at 0
    unfold U32 at h1 h2
    rw [val_head_tail xs, val_head_tail ys]; omega
theorem sig_zero {xs : List Int} {j : Nat} (h : sig xs ≤ j) : xs.getD j 0 = 0 := by
  induction xs generalizing j with
  | nil => simp
  | cons x xs ih =>
    simp only [sig] at h
    split at h
    · rename_i h1
      split at h
      · rename_i h2
        cases j with
        | zero => simpa using h2
        | succ j => rw [List.getD_cons_succ]; exact ih (by omega)
      · cases j with
        | zero => omega
        | succ j => rw [List.getD_cons_succ]; exact ih (by omega)
    · cases j with
      | zero => omega
      | succ j => rw [List.getD_cons_succ]; exact ih (by omega)
theorem sig_pos {xs : List Int} (hu : U32s xs) (h : 0 < sig xs) : 0 < xs.getD (sig xs - 1) 0 := by
  have h1 := sig_last h; have h2 := hu.at (sig xs - 1); unfold U32 at h2; omega
theorem val_lt_of_sig {xs ys : List Int} (ux : U32s xs) (uy : U32s ys) (h : sig xs < sig ys) : val xs < val ys := by
  refine val_lt_of (sig ys - 1) xs ys ux uy (fun j hj => by rw [sig_zero (by omega), sig_zero (by omega)]) ?_
  rw [sig_zero (xs := xs) (by omega)]; exact sig_pos uy (by omega)

def cmpI (x y : Int) : Int := if x < y then -1 else if y < x then 1 else 0

/-- 'the slice v has k significant limbs'. -/
def Len (w : World) (v : Value) (k : Nat) : Prop := ∃ xs, Sl .u32 w v xs ∧ xs.length ≤ 1152921504606846976 ∧ sig xs = k
theorem length_len {w : World} (v : Value) (k : Nat) (h : Len w v k) : Calls Try.prog 52 #[v] w fun e w' => e = .returned (.int .i64 k) ∧ w = w' := by
  obtain ⟨xs, h1, h2, rfl⟩ := h; exact (length_any xs v w h1 h2).mono fun e w' h => ⟨h.1, h.2.symm⟩

set_option maxHeartbeats 1000000 in
theorem Cmp_any (xs ys : List Int) (v u : Value) (w : World) (hx : Sl .u32 w v xs) (hy : Sl .u32 w u ys) (ux : U32s xs) (uy : U32s ys) (lx : xs.length ≤ 1152921504606846976) (ly : ys.length ≤ 1152921504606846976) :
    Calls Try.prog 20 #[v, u] w fun e w' => e = .returned (.int .i64 (cmpI (val xs) (val ys))) ∧ Below w.heap.size w w' := by
  have hlx : Len w v (sig xs) := ⟨xs, hx, lx, rfl⟩
  have hly : Len w u (sig ys) := ⟨ys, hy, ly, rfl⟩
  obtain ⟨a1, c1, rfl, hc1, h1⟩ := id hx
  obtain ⟨a2, c2, rfl, hc2, h2⟩ := id hy
  have hsx := sig_le xs
  have hsy := sig_le ys
  by_cases hlt : sig xs < sig ys
  · have HC : Hid (val xs < val ys) := val_lt_of_sig ux uy hlt
    go_enter Try.func20, Try.ntmps20
    go_wp2_with (go_at_call 52; refine (length_len _ _ (by assumption)).mono ?_; rintro e w' ⟨rfl, rfl⟩)
    go_ret
    exact ⟨ret_int (by unfold cmpI; rw [if_pos HC.out]), Below.refl _ _⟩
  by_cases hgt : sig ys < sig xs
  · have HC : Hid (val ys < val xs) := val_lt_of_sig uy ux hgt
    go_enter Try.func20, Try.ntmps20
    go_wp2_with (go_at_call 52; refine (length_len _ _ (by assumption)).mono ?_; rintro e w' ⟨rfl, rfl⟩)
    go_ret
    exact ⟨ret_int (by unfold cmpI; rw [if_neg (by have := HC.out; omega), if_pos HC.out]), Below.refl _ _⟩
  obtain ⟨n, hn⟩ : ∃ n, sig xs = n := ⟨_, rfl⟩
  have hn2 : sig ys = n := by omega
  rw [hn] at hlx
  rw [hn2] at hly
  clear hlt hgt
  have HZ : Hid (∀ j, n ≤ j → xs.getD j 0 = ys.getD j 0) := fun j hj => by rw [sig_zero (by omega), sig_zero (by omega)]
  have hnx : n ≤ xs.length := by omega
  have hny : n ≤ ys.length := by omega
  clear hsx hsy hn hn2
  by_cases hn0 : n = 0
  · subst hn0
    have HE : Hid (val xs = val ys) := val_ext _ _ (fun j => HZ.out j (Nat.zero_le _))
    go_enter Try.func20, Try.ntmps20
    go_wp2_with (go_at_call 52; refine (length_len _ _ (by assumption)).mono ?_; rintro e w' ⟨rfl, rfl⟩)
    go_loop [22] (fun i => i = .int .i64 0) (fun _ => 0)
    case atStart => rfl
    case round =>
      subst hrel
      go_wp2
      go_ret
      exact ⟨ret_int (by unfold cmpI; rw [HE.out]; simp), Below.refl _ _⟩
  rcases h1 with rfl | ⟨b1, o1, rfl, hb1, hr1⟩
  · simp at hnx; omega
  rcases h2 with rfl | ⟨b2, o2, rfl, hb2, hr2⟩
  · simp at hny; omega
  go_enter Try.func20, Try.ntmps20
  go_wp2_with (go_at_call 52; refine (length_len _ _ (by assumption)).mono ?_; rintro e w' ⟨rfl, rfl⟩)
  go_loopw [22] (fun i wr => ∃ k : Nat, k ≤ n ∧ i = .int .i64 k ∧ (∀ j, n - k ≤ j → xs.getD j 0 = ys.getD j 0) ∧ Below w.heap.size w wr) (fun i _ => n - (intOf i).toNat)
  case atStart => exact ⟨0, Nat.zero_le _, rfl, by simpa using HZ.out, Below.refl _ _⟩
  case round =>
    obtain ⟨k, hk, rfl, hz, hB⟩ := hrel
    by_cases hkn : k < n
    · obtain ⟨m, hm⟩ : ∃ m, m = n - 1 - k := ⟨_, rfl⟩
      have hcx : wr.cell? ⟨b1, o1 + (n - 1 - k), none⟩ = some (.int .u32 (xs.getD (n - 1 - k) 0)) := (below_rd hB hb1 hr1) _ (by omega)
      have hcy : wr.cell? ⟨b2, o2 + (n - 1 - k), none⟩ = some (.int .u32 (ys.getD (n - 1 - k) 0)) := (below_rd hB hb2 hr2) _ (by omega)
      obtain ⟨x, hxk⟩ : ∃ x, xs.getD (n - 1 - k) 0 = x := ⟨_, rfl⟩
      obtain ⟨y, hyk⟩ : ∃ y, ys.getD (n - 1 - k) 0 = y := ⟨_, rfl⟩
      rw [hxk] at hcx
      rw [hyk] at hcy
      have hidx : ((n : Int) - 1 - k).toNat = n - 1 - k := by omega
      have HH : Hid (xs.getD (n - 1 - k) 0 = x ∧ ys.getD (n - 1 - k) 0 = y ∧ (∀ j, n - k ≤ j → xs.getD j 0 = ys.getD j 0) ∧ Below w.heap.size w wr) := ⟨hxk, hyk, hz, hB⟩
      clear hxk hyk hz hB hr1 hr2 hm hx hy hlx hly HZ
      by_cases hxy : x < y
      · go_wp2
        go_quiet (fail)
        go_wp2
        go_ret
        obtain ⟨hxk, hyk, hz, hB⟩ := HH.out
        have := val_lt_of (n - 1 - k) xs ys ux uy (fun j hj => hz j (by omega)) (by rw [hxk, hyk]; exact hxy)
        exact ⟨ret_int (by unfold cmpI; rw [if_pos this]), hB.trans ⟨rfl, rfl, rfl, Nat.le_refl _, fun _ _ => rfl⟩⟩
      by_cases hyx : y < x
      · go_wp2
        go_quiet (fail)
        go_wp2
        go_quiet (fail)
        go_wp2
        go_ret
        obtain ⟨hxk, hyk, hz, hB⟩ := HH.out
        have := val_lt_of (n - 1 - k) ys xs uy ux (fun j hj => (hz j (by omega)).symm) (by rw [hxk, hyk]; exact hyx)
        exact ⟨ret_int (by unfold cmpI; rw [if_neg (by omega), if_pos this]), hB.trans ⟨rfl, rfl, rfl, Nat.le_refl _, fun _ _ => rfl⟩⟩
      · go_wp2
        go_quiet (fail)
        go_wp2
        go_quiet (fail)
        go_wp2
        go_roundw
        case rel =>
          obtain ⟨hxk, hyk, hz, hB⟩ := HH.out
          refine ⟨k + 1, by omega, by go_num, fun j hj => ?_, hB.trans ⟨rfl, rfl, rfl, Nat.le_refl _, fun _ _ => rfl⟩⟩
          by_cases hj2 : n - k ≤ j
          · exact hz j hj2
          · have : j = n - 1 - k := by omega
            subst this; rw [hxk, hyk]; omega
        case measure => simp [intOf]; omega
    · have HE : Hid (val xs = val ys) := val_ext _ _ (fun j => hz j (by omega))
      have HB : Hid (Below w.heap.size w wr) := hB
      clear hz hB
      go_wp2
      go_ret
      exact ⟨ret_int (by unfold cmpI; rw [HE.out]; simp), HB.out⟩
end Go.Proofs.Ythkheocggcmooaa
