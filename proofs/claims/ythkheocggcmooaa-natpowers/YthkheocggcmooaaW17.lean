/-
  The walks of Same, SameBytes, num; literals in memory.
-/
import Derived.Test.YthkheocggcmooaaW16
import Derived.Test.YthkheocggcmooaaW15
namespace Go.Proofs.Ythkheocggcmooaa
open Go.RowKit

set_option maxHeartbeats 1000000 in
theorem Same_any {w : World} (v u : Value) (xs : List Int) (hx : Sl .u32 w v xs) (hy : Sl .u32 w u xs) (lx : xs.length ≤ 1152921504606846976) :
    Calls Try.prog 14 #[v, u] w fun e w' => e = .returned (.bool true) ∧ Below w.heap.size w w' := by
  obtain ⟨a1, c1, rfl, hc1, h1⟩ := hx
  obtain ⟨a2, c2, rfl, hc2, h2⟩ := hy
  by_cases hne : xs = []
  · subst hne
    simp only [List.length_nil]
    go_enter Try.func14, Try.ntmps14
    go_wp2
    go_loop [5] (fun i => i = .int .i64 0) (fun _ => 0)
    case atStart => rfl
    case round =>
      subst hrel
      go_wp2
      go_ret
      exact ⟨rfl, Below.refl _ _⟩
  · rcases h1 with h1 | ⟨b1, o1, rfl, hb1, hr1⟩
    · exact absurd h1 hne
    rcases h2 with h2 | ⟨b2, o2, rfl, hb2, hr2⟩
    · exact absurd h2 hne
    obtain ⟨n, hn⟩ : ∃ n, xs.length = n := ⟨_, rfl⟩
    rw [hn] at lx hc1 hc2 ⊢
    have HN : Hid (xs.length = n) := hn
    clear hn hne
    go_enter Try.func14, Try.ntmps14
    go_wp2
    go_loopw [5] (fun i wr => ∃ k : Nat, k ≤ n ∧ i = .int .i64 k ∧ Below w.heap.size w wr) (fun i _ => n - (intOf i).toNat)
    case atStart => exact ⟨0, Nat.zero_le _, rfl, Below.refl _ _⟩
    case round =>
      obtain ⟨k, hk, rfl, hB⟩ := hrel
      by_cases hkn : k < n
      · obtain ⟨x, hx⟩ : ∃ x, xs.getD k 0 = x := ⟨_, rfl⟩
        have hcx : wr.cell? ⟨b1, o1 + k, none⟩ = some (.int .u32 x) := by rw [← hx]; exact (below_rd hB hb1 hr1) k (by rw [HN.out]; exact hkn)
        have hcy : wr.cell? ⟨b2, o2 + k, none⟩ = some (.int .u32 x) := by rw [← hx]; exact (below_rd hB hb2 hr2) k (by rw [HN.out]; exact hkn)
        have HB : Hid (Below w.heap.size w wr) := hB
        clear hx hB hr1 hr2
        go_wp2
        go_quiet (fail)
        go_wp2
        go_roundw
        case rel => exact ⟨k + 1, by omega, by go_num, HB.out.trans ⟨rfl, rfl, rfl, Nat.le_refl _, fun _ _ => rfl⟩⟩
        case measure => simp [intOf]; omega
      · have HB : Hid (Below w.heap.size w wr) := hB
        clear hB
        go_wp2
        go_ret
        exact ⟨rfl, HB.out⟩

set_option maxHeartbeats 1000000 in
theorem SameBytes_any {w : World} (v u : Value) (xs : List Int) (hx : Sl .u8 w v xs) (hy : Sl .u8 w u xs) (lx : xs.length ≤ 1152921504606846976) :
    Calls Try.prog 38 #[v, u] w fun e w' => e = .returned (.bool true) ∧ Below w.heap.size w w' := by
  obtain ⟨a1, c1, rfl, hc1, h1⟩ := hx
  obtain ⟨a2, c2, rfl, hc2, h2⟩ := hy
  by_cases hne : xs = []
  · subst hne
    simp only [List.length_nil]
    go_enter Try.func38, Try.ntmps38
    go_wp2
    go_loop [5] (fun i => i = .int .i64 0) (fun _ => 0)
    case atStart => rfl
    case round =>
      subst hrel
      go_wp2
      go_ret
      exact ⟨rfl, Below.refl _ _⟩
  · rcases h1 with h1 | ⟨b1, o1, rfl, hb1, hr1⟩
    · exact absurd h1 hne
    rcases h2 with h2 | ⟨b2, o2, rfl, hb2, hr2⟩
    · exact absurd h2 hne
    obtain ⟨n, hn⟩ : ∃ n, xs.length = n := ⟨_, rfl⟩
    rw [hn] at lx hc1 hc2 ⊢
    have HN : Hid (xs.length = n) := hn
    clear hn hne
    go_enter Try.func38, Try.ntmps38
    go_wp2
    go_loopw [5] (fun i wr => ∃ k : Nat, k ≤ n ∧ i = .int .i64 k ∧ Below w.heap.size w wr) (fun i _ => n - (intOf i).toNat)
    case atStart => exact ⟨0, Nat.zero_le _, rfl, Below.refl _ _⟩
    case round =>
      obtain ⟨k, hk, rfl, hB⟩ := hrel
      by_cases hkn : k < n
      · obtain ⟨x, hx⟩ : ∃ x, xs.getD k 0 = x := ⟨_, rfl⟩
        have hcx : wr.cell? ⟨b1, o1 + k, none⟩ = some (.int .u8 x) := by rw [← hx]; exact (below_rd hB hb1 hr1) k (by rw [HN.out]; exact hkn)
        have hcy : wr.cell? ⟨b2, o2 + k, none⟩ = some (.int .u8 x) := by rw [← hx]; exact (below_rd hB hb2 hr2) k (by rw [HN.out]; exact hkn)
        have HB : Hid (Below w.heap.size w wr) := hB
        clear hx hB hr1 hr2
        go_wp2
        go_quiet (fail)
        go_wp2
        go_roundw
        case rel => exact ⟨k + 1, by omega, by go_num, HB.out.trans ⟨rfl, rfl, rfl, Nat.le_refl _, fun _ _ => rfl⟩⟩
        case measure => simp [intOf]; omega
      · have HB : Hid (Below w.heap.size w wr) := hB
        clear hB
        go_wp2
        go_ret
        exact ⟨rfl, HB.out⟩

theorem num_any (x : Int) (w : World) : Calls Try.prog 15 #[.int .i64 x] w fun e w' => e = .returned (.int .i64 x) ∧ w = w' := by
  go_enter Try.func15, Try.ntmps15
  go_wp2
  go_ret
  exact ⟨rfl, rfl⟩

theorem arr_new {k : IntKind} {e : TypeId} {w : World} {b : Nat} {cs : Array Value} {xs : List Int} (hb : b = w.heap.size) (h : cs = (xs.map (Value.int k)).toArray) : Arr k e (w.alloc (.cells cs e)) b xs := by
  subst hb; subst h; unfold Arr; rw [heap_alloc_new]
theorem arr_old {k : IntKind} {e : TypeId} {w : World} {b : Nat} {xs : List Int} {o : Obj} (h : Arr k e w b xs) : Arr k e (w.alloc o) b xs := by
  exact below_arr ((Below.refl _ _).alloc (Nat.le_refl _) o) h.lt h
theorem al1 {k : IntKind} {w : World} {v : Value} {xs : List Int} {o : Obj} (h : Sl k w v xs) : Sl k (w.alloc o) v xs := below_sl ((Below.refl _ _).alloc (Nat.le_refl _) o) h
theorem grow0 {a w w' : World} (h : Below a.heap.size a w) (hB : Below w.heap.size w w') : Below a.heap.size a w' := h.trans (hB.mono h.size)
theorem al {a w : World} {o : Obj} (h : Below a.heap.size a w) : Below a.heap.size a (w.alloc o) := h.alloc h.size o
theorem Arr.sl8 {w : World} {b : Nat} {S : List Int} (h : Arr .u8 5 w b S) : Sl .u8 w (.slice (some ⟨b, 0, none⟩) S.length S.length) S :=
  ⟨_, _, rfl, Nat.le_refl _, .inr ⟨b, 0, rfl, h.lt, by have := h.rd 0 S.length (by omega); rw [List.drop_zero, List.take_length] at this; exact this⟩⟩
theorem lim_of {N : Int} {xs : List Int} (hu : U32s xs) (hs : sig xs = xs.length) (h : val xs = N) : lim N.toNat = xs := by rw [← h]; exact lim_val hu hs
theorem u1 {x : Int} (h : 0 ≤ x) (h' : x < 4294967296) : U32s [x] := U32s.cons ⟨h, h'⟩ U32s.nil
theorem u2 {x y : Int} (h : 0 ≤ x) (h' : x < 4294967296) (k : 0 ≤ y) (k' : y < 4294967296) : U32s [x, y] := U32s.cons ⟨h, h'⟩ (u1 k k')
theorem u3 {x y z : Int} (h : 0 ≤ x) (h' : x < 4294967296) (k : 0 ≤ y) (k' : y < 4294967296) (j : 0 ≤ z) (j' : z < 4294967296) : U32s [x, y, z] := U32s.cons ⟨h, h'⟩ (u2 k k' j j')

/-! ### the page's examples, one by one -/
theorem live_add {w : World} {v u : Value} (h : Sl .u32 w v [4294967295]) (h' : Sl .u32 w u [1]) :
    Calls Try.prog 10 #[v, u] w fun e w' => ∃ r, e = .returned (.tuple #[r, .int .i64 0]) ∧ Sl .u32 w' r [0, 1] ∧ Below w.heap.size w w' := by
  refine (Add_any _ _ _ _ _ h h' (u1 (by decide) (by decide)) (u1 (by decide) (by decide))).mono ?_
  have e1 : addS [4294967295] [1] = ([0, 1], 0) := by
    have : lim (val [4294967295] + val [1]).toNat = [0, 1] := lim_of (u2 (by decide) (by decide) (by decide) (by decide)) (by decide) (by decide)
    simp [addS, this, fit]
  rintro e w' ⟨⟨r, rfl, hr⟩, hB⟩
  rw [e1] at hr
  exact ⟨r, by rw [e1], hr.sl, hB⟩
theorem live_sub {w : World} {v u : Value} (h : Sl .u32 w v [0, 1]) (h' : Sl .u32 w u [1]) :
    Calls Try.prog 12 #[v, u] w fun e w' => ∃ r, e = .returned (.tuple #[r, .int .i64 0]) ∧ Sl .u32 w' r [4294967295] ∧ Below w.heap.size w w' := by
  refine (Sub_any _ _ _ _ _ h h' (u2 (by decide) (by decide) (by decide) (by decide)) (u1 (by decide) (by decide))).mono ?_
  have e1 : subS [0, 1] [1] = ([4294967295], 0) := by
    have : lim (val [0, 1] - val [1]).toNat = [4294967295] := lim_of (u1 (by decide) (by decide)) (by decide) (by decide)
    have h2 : ¬ val [0, 1] < val [1] := by decide
    simp [subS, this, h2]
  rintro e w' ⟨⟨r, rfl, hr⟩, hB⟩
  rw [e1] at hr
  exact ⟨r, by rw [e1], hr.sl, hB⟩
theorem live_mul {w : World} {v u : Value} (h : Sl .u32 w v [0, 1]) (h' : Sl .u32 w u [0, 1]) :
    Calls Try.prog 24 #[v, u] w fun e w' => ∃ r, e = .returned (.tuple #[r, .int .i64 0]) ∧ Sl .u32 w' r [0, 0, 1] ∧ Below w.heap.size w w' := by
  refine (Mul_any _ _ _ _ _ h h' (u2 (by decide) (by decide) (by decide) (by decide)) (u2 (by decide) (by decide) (by decide) (by decide))).mono ?_
  have e1 : mulS [0, 1] [0, 1] = ([0, 0, 1], 0) := by
    have : lim (val [0, 1] * val [0, 1]).toNat = [0, 0, 1] := lim_of (u3 (by decide) (by decide) (by decide) (by decide) (by decide) (by decide)) (by decide) (by decide)
    simp [mulS, this, fit]
  rintro e w' ⟨⟨r, rfl, hr⟩, hB⟩
  rw [e1] at hr
  exact ⟨r, by rw [e1], hr.sl, hB⟩
theorem live_div {w : World} {v u : Value} (h : Sl .u32 w v [7]) (h' : Sl .u32 w u [2]) :
    Calls Try.prog 26 #[v, u] w fun e w' => ∃ q r, e = .returned (.tuple #[q, r, .int .i64 0]) ∧ Sl .u32 w' q [3] ∧ Sl .u32 w' r [1] ∧ Below w.heap.size w w' := by
  refine (DivMod_any _ _ _ _ _ h h' (u1 (by decide) (by decide)) (u1 (by decide) (by decide)) (.inl (by decide))).mono ?_
  have e1 : divS [7] [2] = ([3], [1], 0) := by
    have t1 : lim (val [7] / val [2]).toNat = [3] := lim_of (u1 (by decide) (by decide)) (by decide) (by decide)
    have t2 : lim (val [7] % val [2]).toNat = [1] := lim_of (u1 (by decide) (by decide)) (by decide) (by decide)
    have h2 : ¬ val [2] = 0 := by decide
    simp [divS, t1, t2, h2]
  rintro e w' ⟨⟨q, r, rfl, hq, hr⟩, hB⟩
  rw [e1] at hr hq
  exact ⟨q, r, by rw [e1], hq.sl, hr.sl, hB⟩
theorem live_exp {w : World} {v u t : Value} (h : Sl .u32 w v [3]) (h' : Sl .u32 w u [4]) (h'' : Sl .u32 w t [5]) :
    Calls Try.prog 29 #[v, u, t] w fun e w' => ∃ r, e = .returned (.tuple #[r, .int .i64 0]) ∧ Sl .u32 w' r [1] ∧ Below w.heap.size w w' := by
  refine (ExpMod_any _ _ _ _ _ _ _ h h' h'' (u1 (by decide) (by decide)) (u1 (by decide) (by decide)) (u1 (by decide) (by decide)) (.inl (by decide))).mono ?_
  have e1 : expS [3] [4] [5] = ([1], 0) := by
    have t1 : lim (val [3] ^ (val [4]).toNat % val [5]).toNat = [1] := lim_of (u1 (by decide) (by decide)) (by decide) (by decide)
    have h2 : ¬ val [5] = 0 := by decide
    have h3 : ¬ expLong [3] [4] [5] := by decide
    unfold expS
    rw [if_neg h3, if_neg h2, t1]
  rintro e w' ⟨⟨r, rfl, hr⟩, hB⟩
  rw [e1] at hr
  exact ⟨r, by rw [e1], hr.sl, hB⟩
theorem live_inv {w : World} {v u : Value} (h : Sl .u32 w v [3]) (h' : Sl .u32 w u [7]) :
    Calls Try.prog 31 #[v, u] w fun e w' => ∃ r, e = .returned (.tuple #[r, .int .i64 0]) ∧ Sl .u32 w' r [5] ∧ Below w.heap.size w w' := by
  refine (Inverse_any _ _ _ _ _ h h' (u1 (by decide) (by decide)) (u1 (by decide) (by decide)) (.inl (by decide))).mono ?_
  rintro e w' ⟨s, hs, ⟨r, rfl, hr⟩, hB⟩
  have e1 : s = ([5], 0) := by
    unfold InvS at hs
    rw [if_neg (by decide), if_neg (by decide)] at hs
    have v3 : val [3] = 3 := by decide
    have v7 : val [7] = 7 := by decide
    rw [v3, v7] at hs
    rcases hs with ⟨G, g0, g1, ⟨t, ht⟩, rfl⟩ | ⟨D, d0, d1, d2, rfl⟩
    · have hG : G = 5 := by omega
      subst hG
      have : lim (Int.toNat 5) = [5] := lim_of (u1 (by decide) (by decide)) (by decide) (by decide)
      rw [this]
    · obtain ⟨x, hx⟩ := d1
      obtain ⟨y, hy⟩ := d2
      exfalso
      have hd := Int.le_of_dvd (by decide) (show D ∣ 3 from ⟨x, hx⟩)
      have hD : D = 2 ∨ D = 3 := by omega
      rcases hD with rfl | rfl <;> omega
  subst e1
  exact ⟨r, rfl, hr.sl, hB⟩
theorem live_byt {w : World} {v : Value} (h : Sl .u32 w v [258]) :
    Calls Try.prog 36 #[v, .int .i64 3] w fun e w' => ∃ r, e = .returned (.tuple #[r, .int .i64 0]) ∧ Sl .u8 w' r [0, 1, 2] ∧ Below w.heap.size w w' := by
  refine (Bytes_any [258] 3 _ _ h (u1 (by decide) (by decide)) (by decide) (by decide)).mono ?_
  have e1 : bytS [258] 3 = ([0, 1, 2], 0) := by
    unfold bytS
    rw [if_neg (by decide), if_neg (by decide), if_neg (by decide)]
    rfl
  rintro e w' ⟨⟨r, rfl, hr, _⟩, hB⟩
  rw [e1] at hr
  exact ⟨r, by rw [e1], hr.sl, hB⟩
end Go.Proofs.Ythkheocggcmooaa
