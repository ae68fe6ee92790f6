/-
  The walks of Same, SameBytes, num; literals in memory.
-/
import Derived.Test.YteagdgbcfbkfbaaK22
namespace Go.Proofs.Yteagdgbcfbkfbaa.Nt
open Go.RowKit

set_option maxHeartbeats 1000000 in
theorem Same_any {w : World} (v u : Value) (xs : List Int) (hx : Sl .u32 w v xs) (hy : Sl .u32 w u xs) (lx : xs.length ≤ 1152921504606846976) :
    Calls Try.prog 50 #[v, u] w fun e w' => e = .returned (.bool true) ∧ Below w.heap.size w w' := by
  obtain ⟨a1, c1, rfl, hc1, h1⟩ := hx
  obtain ⟨a2, c2, rfl, hc2, h2⟩ := hy
  by_cases hne : xs = []
  · subst hne
    simp only [List.length_nil]
    go_enter Try.func50, Try.ntmps50
    go_wp2
    go_loop [5] (fun i => i = .int .i64 0) (fun _ => 0)
    case atStart => rfl
    case round =>
      subst hrel
      go_wp2
      go_ret
      exact ⟨rfl, Below.refl _ _⟩
  · rcases h1 with h1 | ⟨b1, o1, rfl, hb1, hr1⟩
    · exact absurd h1 hne
    rcases h2 with h2 | ⟨b2, o2, rfl, hb2, hr2⟩
    · exact absurd h2 hne
    obtain ⟨n, hn⟩ : ∃ n, xs.length = n := ⟨_, rfl⟩
    rw [hn] at lx hc1 hc2 ⊢
    have HN : Hid (xs.length = n) := hn
    clear hn hne
    go_enter Try.func50, Try.ntmps50
    go_wp2
    go_loopw [5] (fun i wr => ∃ k : Nat, k ≤ n ∧ i = .int .i64 k ∧ Below w.heap.size w wr) (fun i _ => n - (intOf i).toNat)
    case atStart => exact ⟨0, Nat.zero_le _, rfl, Below.refl _ _⟩
    case round =>
      obtain ⟨k, hk, rfl, hB⟩ := hrel
      by_cases hkn : k < n
      · obtain ⟨x, hx⟩ : ∃ x, xs.getD k 0 = x := ⟨_, rfl⟩
        have hcx : wr.cell? ⟨b1, o1 + k, none⟩ = some (.int .u32 x) := by rw [← hx]; exact (below_rd hB hb1 hr1) k (by rw [HN.out]; exact hkn)
        have hcy : wr.cell? ⟨b2, o2 + k, none⟩ = some (.int .u32 x) := by rw [← hx]; exact (below_rd hB hb2 hr2) k (by rw [HN.out]; exact hkn)
        have HB : Hid (Below w.heap.size w wr) := hB
        clear hx hB hr1 hr2
        go_wp2
        go_quiet (fail)
        go_wp2
        go_roundw
        case rel => exact ⟨k + 1, by omega, by go_num, HB.out.trans ⟨rfl, rfl, rfl, Nat.le_refl _, fun _ _ => rfl⟩⟩
        case measure => simp [intOf]; omega
      · have HB : Hid (Below w.heap.size w wr) := hB
        clear hB
        go_wp2
        go_ret
        exact ⟨rfl, HB.out⟩

set_option maxHeartbeats 1000000 in
theorem SameBytes_any {w : World} (v u : Value) (xs : List Int) (hx : Sl .u8 w v xs) (hy : Sl .u8 w u xs) (lx : xs.length ≤ 1152921504606846976) :
    Calls Try.prog 28 #[v, u] w fun e w' => e = .returned (.bool true) ∧ Below w.heap.size w w' := by
  obtain ⟨a1, c1, rfl, hc1, h1⟩ := hx
  obtain ⟨a2, c2, rfl, hc2, h2⟩ := hy
  by_cases hne : xs = []
  · subst hne
    simp only [List.length_nil]
    go_enter Try.func28, Try.ntmps28
    go_wp2
    go_loop [5] (fun i => i = .int .i64 0) (fun _ => 0)
    case atStart => rfl
    case round =>
      subst hrel
      go_wp2
      go_ret
      exact ⟨rfl, Below.refl _ _⟩
  · rcases h1 with h1 | ⟨b1, o1, rfl, hb1, hr1⟩
    · exact absurd h1 hne
    rcases h2 with h2 | ⟨b2, o2, rfl, hb2, hr2⟩
    · exact absurd h2 hne
    obtain ⟨n, hn⟩ : ∃ n, xs.length = n := ⟨_, rfl⟩
    rw [hn] at lx hc1 hc2 ⊢
    have HN : Hid (xs.length = n) := hn
    clear hn hne
    go_enter Try.func28, Try.ntmps28
    go_wp2
    go_loopw [5] (fun i wr => ∃ k : Nat, k ≤ n ∧ i = .int .i64 k ∧ Below w.heap.size w wr) (fun i _ => n - (intOf i).toNat)
    case atStart => exact ⟨0, Nat.zero_le _, rfl, Below.refl _ _⟩
    case round =>
      obtain ⟨k, hk, rfl, hB⟩ := hrel
      by_cases hkn : k < n
      · obtain ⟨x, hx⟩ : ∃ x, xs.getD k 0 = x := ⟨_, rfl⟩
        have hcx : wr.cell? ⟨b1, o1 + k, none⟩ = some (.int .u8 x) := by rw [← hx]; exact (below_rd hB hb1 hr1) k (by rw [HN.out]; exact hkn)
        have hcy : wr.cell? ⟨b2, o2 + k, none⟩ = some (.int .u8 x) := by rw [← hx]; exact (below_rd hB hb2 hr2) k (by rw [HN.out]; exact hkn)
        have HB : Hid (Below w.heap.size w wr) := hB
        clear hx hB hr1 hr2
        go_wp2
        go_quiet (fail)
        go_wp2
        go_roundw
        case rel => exact ⟨k + 1, by omega, by go_num, HB.out.trans ⟨rfl, rfl, rfl, Nat.le_refl _, fun _ _ => rfl⟩⟩
        case measure => simp [intOf]; omega
      · have HB : Hid (Below w.heap.size w wr) := hB
        clear hB
        go_wp2
        go_ret
        exact ⟨rfl, HB.out⟩

theorem arr_new {k : IntKind} {e : TypeId} {w : World} {b : Nat} {cs : Array Value} {xs : List Int} (hb : b = w.heap.size) (h : cs = (xs.map (Value.int k)).toArray) : Arr k e (w.alloc (.cells cs e)) b xs := by
  subst hb; subst h; unfold Arr; rw [heap_alloc_new]
theorem arr_old {k : IntKind} {e : TypeId} {w : World} {b : Nat} {xs : List Int} {o : Obj} (h : Arr k e w b xs) : Arr k e (w.alloc o) b xs := by
  exact below_arr ((Below.refl _ _).alloc (Nat.le_refl _) o) h.lt h
theorem al1 {k : IntKind} {w : World} {v : Value} {xs : List Int} {o : Obj} (h : Sl k w v xs) : Sl k (w.alloc o) v xs := below_sl ((Below.refl _ _).alloc (Nat.le_refl _) o) h
theorem grow0 {a w w' : World} (h : Below a.heap.size a w) (hB : Below w.heap.size w w') : Below a.heap.size a w' := h.trans (hB.mono h.size)
theorem al {a w : World} {o : Obj} (h : Below a.heap.size a w) : Below a.heap.size a (w.alloc o) := h.alloc h.size o
theorem _root_.Go.Proofs.Yteagdgbcfbkfbaa.Arr.sl8 {w : World} {b : Nat} {S : List Int} (h : Arr .u8 5 w b S) : Sl .u8 w (.slice (some ⟨b, 0, none⟩) S.length S.length) S :=
  ⟨_, _, rfl, Nat.le_refl _, .inr ⟨b, 0, rfl, h.lt, by have := h.rd 0 S.length (by omega); rw [List.drop_zero, List.take_length] at this; exact this⟩⟩
theorem lim_of {N : Int} {xs : List Int} (hu : U32s xs) (hs : sig xs = xs.length) (h : val xs = N) : lim N.toNat = xs := by rw [← h]; exact lim_val hu hs
theorem u1 {x : Int} (h : 0 ≤ x) (h' : x < 4294967296) : U32s [x] := U32s.cons ⟨h, h'⟩ U32s.nil
theorem u2 {x y : Int} (h : 0 ≤ x) (h' : x < 4294967296) (k : 0 ≤ y) (k' : y < 4294967296) : U32s [x, y] := U32s.cons ⟨h, h'⟩ (u1 k k')
theorem u3 {x y z : Int} (h : 0 ≤ x) (h' : x < 4294967296) (k : 0 ≤ y) (k' : y < 4294967296) (j : 0 ≤ z) (j' : z < 4294967296) : U32s [x, y, z] := U32s.cons ⟨h, h'⟩ (u2 k k' j j')

/-! ### the page's examples, one by one -/
theorem live_add {w : World} {v u : Value} (h : Sl .u32 w v [4294967295]) (h' : Sl .u32 w u [1]) :
    Calls Try.prog 80 #[v, u] w fun e w' => ∃ r, e = .returned (.tuple #[r, .int .i64 0]) ∧ Sl .u32 w' r [0, 1] ∧ Below w.heap.size w w' := by
  refine (Add_any _ _ _ _ _ h h' (u1 (by decide) (by decide)) (u1 (by decide) (by decide))).mono ?_
  have e1 : addS [4294967295] [1] = ([0, 1], 0) := by
    have : lim (val [4294967295] + val [1]).toNat = [0, 1] := lim_of (u2 (by decide) (by decide) (by decide) (by decide)) (by decide) (by decide)
    simp [addS, this, fit]
  rintro e w' ⟨⟨r, rfl, hr⟩, hB⟩
  rw [e1] at hr
  exact ⟨r, by rw [e1], hr.sl, hB⟩
theorem live_sub {w : World} {v u : Value} (h : Sl .u32 w v [0, 1]) (h' : Sl .u32 w u [1]) :
    Calls Try.prog 81 #[v, u] w fun e w' => ∃ r, e = .returned (.tuple #[r, .int .i64 0]) ∧ Sl .u32 w' r [4294967295] ∧ Below w.heap.size w w' := by
  refine (Sub_any _ _ _ _ _ h h' (u2 (by decide) (by decide) (by decide) (by decide)) (u1 (by decide) (by decide))).mono ?_
  have e1 : subS [0, 1] [1] = ([4294967295], 0) := by
    have : lim (val [0, 1] - val [1]).toNat = [4294967295] := lim_of (u1 (by decide) (by decide)) (by decide) (by decide)
    have h2 : ¬ val [0, 1] < val [1] := by decide
    simp [subS, this, h2]
  rintro e w' ⟨⟨r, rfl, hr⟩, hB⟩
  rw [e1] at hr
  exact ⟨r, by rw [e1], hr.sl, hB⟩
theorem live_mul {w : World} {v u : Value} (h : Sl .u32 w v [0, 1]) (h' : Sl .u32 w u [0, 1]) :
    Calls Try.prog 100 #[v, u] w fun e w' => ∃ r, e = .returned (.tuple #[r, .int .i64 0]) ∧ Sl .u32 w' r [0, 0, 1] ∧ Below w.heap.size w w' := by
  refine (Mul_any _ _ _ _ _ h h' (u2 (by decide) (by decide) (by decide) (by decide)) (u2 (by decide) (by decide) (by decide) (by decide))).mono ?_
  have e1 : mulS [0, 1] [0, 1] = ([0, 0, 1], 0) := by
    have : lim (val [0, 1] * val [0, 1]).toNat = [0, 0, 1] := lim_of (u3 (by decide) (by decide) (by decide) (by decide) (by decide) (by decide)) (by decide) (by decide)
    simp [mulS, this, fit]
  rintro e w' ⟨⟨r, rfl, hr⟩, hB⟩
  rw [e1] at hr
  exact ⟨r, by rw [e1], hr.sl, hB⟩
theorem live_div {w : World} {v u : Value} (h : Sl .u32 w v [7]) (h' : Sl .u32 w u [2]) :
    Calls Try.prog 88 #[v, u] w fun e w' => ∃ q r, e = .returned (.tuple #[q, r, .int .i64 0]) ∧ Sl .u32 w' q [3] ∧ Sl .u32 w' r [1] ∧ Below w.heap.size w w' := by
  refine (DivMod_any _ _ _ _ _ h h' (u1 (by decide) (by decide)) (u1 (by decide) (by decide)) (.inl (by decide))).mono ?_
  have e1 : divS [7] [2] = ([3], [1], 0) := by
    have t1 : lim (val [7] / val [2]).toNat = [3] := lim_of (u1 (by decide) (by decide)) (by decide) (by decide)
    have t2 : lim (val [7] % val [2]).toNat = [1] := lim_of (u1 (by decide) (by decide)) (by decide) (by decide)
    have h2 : ¬ val [2] = 0 := by decide
    simp [divS, t1, t2, h2]
  rintro e w' ⟨⟨q, r, rfl, hq, hr⟩, hB⟩
  rw [e1] at hr hq
  exact ⟨q, r, by rw [e1], hq.sl, hr.sl, hB⟩
theorem live_inv {w : World} {v u : Value} (h : Sl .u32 w v [3]) (h' : Sl .u32 w u [7]) :
    Calls Try.prog 65 #[v, u] w fun e w' => ∃ r, e = .returned (.tuple #[r, .int .i64 0]) ∧ Sl .u32 w' r [5] ∧ Below w.heap.size w w' := by
  refine (Inverse_any _ _ _ _ _ h h' (u1 (by decide) (by decide)) (u1 (by decide) (by decide)) (.inl (by decide))).mono ?_
  rintro e w' ⟨s, hs, ⟨r, rfl, hr⟩, hB⟩
  have e1 : s = ([5], 0) := by
    unfold InvS at hs
    rw [if_neg (by decide), if_neg (by decide)] at hs
    have v3 : val [3] = 3 := by decide
    have v7 : val [7] = 7 := by decide
    rw [v3, v7] at hs
    rcases hs with ⟨G, g0, g1, ⟨t, ht⟩, rfl⟩ | ⟨D, d0, d1, d2, rfl⟩
    · have hG : G = 5 := by omega
      subst hG
      have : lim (Int.toNat 5) = [5] := lim_of (u1 (by decide) (by decide)) (by decide) (by decide)
      rw [this]
    · obtain ⟨x, hx⟩ := d1
      obtain ⟨y, hy⟩ := d2
      exfalso
      have hd := Int.le_of_dvd (by decide) (show D ∣ 3 from ⟨x, hx⟩)
      have hD : D = 2 ∨ D = 3 := by omega
      rcases hD with rfl | rfl <;> omega
  subst e1
  exact ⟨r, rfl, hr.sl, hB⟩
theorem live_byt {w : World} {v : Value} (h : Sl .u32 w v [258]) :
    Calls Try.prog 61 #[v, .int .i64 3] w fun e w' => ∃ r, e = .returned (.tuple #[r, .int .i64 0]) ∧ Sl .u8 w' r [0, 1, 2] ∧ Below w.heap.size w w' := by
  refine (Bytes_any [258] 3 _ _ h (u1 (by decide) (by decide)) (by decide) (by decide)).mono ?_
  have e1 : bytS [258] 3 = ([0, 1, 2], 0) := by
    unfold bytS
    rw [if_neg (by decide), if_neg (by decide), if_neg (by decide)]
    rfl
  rintro e w' ⟨⟨r, rfl, hr, _⟩, hB⟩
  rw [e1] at hr
  exact ⟨r, by rw [e1], hr.sl, hB⟩
end Go.Proofs.Yteagdgbcfbkfbaa.Nt
/-
  The reference's Base, Same; the page's helpers; Parse of bytes that begin with 2. (wip/mku31.py)
-/
namespace Go.Proofs.Yteagdgbcfbkfbaa
open Go.RowKit
set_option maxRecDepth 20000
set_option maxHeartbeats 4000000 in
theorem RBase_any {w : World} (c : Int) : Calls Try.prog 53 #[.int .i64 c] w fun e w' => ∃ r q, e = .returned (.agg #[r, q]) ∧ Nb w' r (crvN (·.gx) (crv c)) ∧ Nb w' q (crvN (·.gy) (crv c)) ∧ Below w.heap.size w w' := by
  by_cases h1 : c = 1
  · subst h1
    go_enter Try.func53, Try.ntmps53
    go_upto_region 2 with (fail)
    refine wp_gen (fun W => Blk 24 W w.heap.size [.slice none 0 0, .slice none 0 0] ∧ Below w.heap.size w W) ⟨Blk.new _ w _, al1 _⟩ ?_
    rintro W2 ⟨hB, hBw⟩
    have hA : Blk 24 (World.alloc (World.alloc W2 (Obj.cells #[Value.int IntKind.u32 3633889942, Value.int IntKind.u32 4104206661, Value.int IntKind.u32 770388896, Value.int IntKind.u32 1996717441, Value.int IntKind.u32 1671708914, Value.int IntKind.u32 4173129445, Value.int IntKind.u32 3777774151, Value.int IntKind.u32 1796723186] 55)) (Obj.cells #[Value.int IntKind.u32 935285237, Value.int IntKind.u32 3417718888, Value.int IntKind.u32 1798397646, Value.int IntKind.u32 734933847, Value.int IntKind.u32 2081398294, Value.int IntKind.u32 2397563722, Value.int IntKind.u32 4263149467, Value.int IntKind.u32 1340293858] 55)) w.heap.size [.slice none 0 0, .slice none 0 0] := (hB.alloc _).alloc _
    have d0 : World.cell? (World.alloc (World.alloc W2 (Obj.cells #[Value.int IntKind.u32 3633889942, Value.int IntKind.u32 4104206661, Value.int IntKind.u32 770388896, Value.int IntKind.u32 1996717441, Value.int IntKind.u32 1671708914, Value.int IntKind.u32 4173129445, Value.int IntKind.u32 3777774151, Value.int IntKind.u32 1796723186] 55)) (Obj.cells #[Value.int IntKind.u32 935285237, Value.int IntKind.u32 3417718888, Value.int IntKind.u32 1798397646, Value.int IntKind.u32 734933847, Value.int IntKind.u32 2081398294, Value.int IntKind.u32 2397563722, Value.int IntKind.u32 4263149467, Value.int IntKind.u32 1340293858] 55)) ⟨w.heap.size, 0, none⟩ = some (.slice none 0 0) := hA.cell 0
    have d1 : World.cell? (World.alloc (World.alloc W2 (Obj.cells #[Value.int IntKind.u32 3633889942, Value.int IntKind.u32 4104206661, Value.int IntKind.u32 770388896, Value.int IntKind.u32 1996717441, Value.int IntKind.u32 1671708914, Value.int IntKind.u32 4173129445, Value.int IntKind.u32 3777774151, Value.int IntKind.u32 1796723186] 55)) (Obj.cells #[Value.int IntKind.u32 935285237, Value.int IntKind.u32 3417718888, Value.int IntKind.u32 1798397646, Value.int IntKind.u32 734933847, Value.int IntKind.u32 2081398294, Value.int IntKind.u32 2397563722, Value.int IntKind.u32 4263149467, Value.int IntKind.u32 1340293858] 55)) ⟨w.heap.size, 1, none⟩ = some (.slice none 0 0) := hA.cell 1
    have g0 : World.frozen? (World.alloc (World.alloc W2 (Obj.cells #[Value.int IntKind.u32 3633889942, Value.int IntKind.u32 4104206661, Value.int IntKind.u32 770388896, Value.int IntKind.u32 1996717441, Value.int IntKind.u32 1671708914, Value.int IntKind.u32 4173129445, Value.int IntKind.u32 3777774151, Value.int IntKind.u32 1796723186] 55)) (Obj.cells #[Value.int IntKind.u32 935285237, Value.int IntKind.u32 3417718888, Value.int IntKind.u32 1798397646, Value.int IntKind.u32 734933847, Value.int IntKind.u32 2081398294, Value.int IntKind.u32 2397563722, Value.int IntKind.u32 4263149467, Value.int IntKind.u32 1340293858] 55)) ⟨w.heap.size, 0, none⟩ = false := hA.frozen 0
    have g1 : World.frozen? (World.alloc (World.alloc W2 (Obj.cells #[Value.int IntKind.u32 3633889942, Value.int IntKind.u32 4104206661, Value.int IntKind.u32 770388896, Value.int IntKind.u32 1996717441, Value.int IntKind.u32 1671708914, Value.int IntKind.u32 4173129445, Value.int IntKind.u32 3777774151, Value.int IntKind.u32 1796723186] 55)) (Obj.cells #[Value.int IntKind.u32 935285237, Value.int IntKind.u32 3417718888, Value.int IntKind.u32 1798397646, Value.int IntKind.u32 734933847, Value.int IntKind.u32 2081398294, Value.int IntKind.u32 2397563722, Value.int IntKind.u32 4263149467, Value.int IntKind.u32 1340293858] 55)) ⟨w.heap.size, 1, none⟩ = false := hA.frozen 1
    have n0 : Nb (World.alloc (World.alloc W2 (Obj.cells #[Value.int IntKind.u32 3633889942, Value.int IntKind.u32 4104206661, Value.int IntKind.u32 770388896, Value.int IntKind.u32 1996717441, Value.int IntKind.u32 1671708914, Value.int IntKind.u32 4173129445, Value.int IntKind.u32 3777774151, Value.int IntKind.u32 1796723186] 55)) (Obj.cells #[Value.int IntKind.u32 935285237, Value.int IntKind.u32 3417718888, Value.int IntKind.u32 1798397646, Value.int IntKind.u32 734933847, Value.int IntKind.u32 2081398294, Value.int IntKind.u32 2397563722, Value.int IntKind.u32 4263149467, Value.int IntKind.u32 1340293858] 55)) (.slice (some ⟨W2.heap.size, 0, none⟩) 8 8) (crvN (·.gx) (crv 1)) := (nb_new (e := 55) (w := W2) [3633889942, 4104206661, 770388896, 1996717441, 1671708914, 4173129445, 3777774151, 1796723186] _ lim256gx).al _
    have n1 : Nb (World.alloc (World.alloc W2 (Obj.cells #[Value.int IntKind.u32 3633889942, Value.int IntKind.u32 4104206661, Value.int IntKind.u32 770388896, Value.int IntKind.u32 1996717441, Value.int IntKind.u32 1671708914, Value.int IntKind.u32 4173129445, Value.int IntKind.u32 3777774151, Value.int IntKind.u32 1796723186] 55)) (Obj.cells #[Value.int IntKind.u32 935285237, Value.int IntKind.u32 3417718888, Value.int IntKind.u32 1798397646, Value.int IntKind.u32 734933847, Value.int IntKind.u32 2081398294, Value.int IntKind.u32 2397563722, Value.int IntKind.u32 4263149467, Value.int IntKind.u32 1340293858] 55)) (.slice (some ⟨W2.heap.size + 1, 0, none⟩) 8 8) (crvN (·.gy) (crv 1)) := by have h := nb_new (e := 55) (w := World.alloc W2 (Obj.cells #[Value.int IntKind.u32 3633889942, Value.int IntKind.u32 4104206661, Value.int IntKind.u32 770388896, Value.int IntKind.u32 1996717441, Value.int IntKind.u32 1671708914, Value.int IntKind.u32 4173129445, Value.int IntKind.u32 3777774151, Value.int IntKind.u32 1796723186] 55)) [935285237, 3417718888, 1798397646, 734933847, 2081398294, 2397563722, 4263149467, 1340293858] (crvN (·.gy) (crv 1)) lim256gy; rw [World.size_alloc] at h; exact h
    have hb : Below w.heap.size w (World.alloc (World.alloc W2 (Obj.cells #[Value.int IntKind.u32 3633889942, Value.int IntKind.u32 4104206661, Value.int IntKind.u32 770388896, Value.int IntKind.u32 1996717441, Value.int IntKind.u32 1671708914, Value.int IntKind.u32 4173129445, Value.int IntKind.u32 3777774151, Value.int IntKind.u32 1796723186] 55)) (Obj.cells #[Value.int IntKind.u32 935285237, Value.int IntKind.u32 3417718888, Value.int IntKind.u32 1798397646, Value.int IntKind.u32 734933847, Value.int IntKind.u32 2081398294, Value.int IntKind.u32 2397563722, Value.int IntKind.u32 4263149467, Value.int IntKind.u32 1340293858] 55)) := below_via hBw ((al1 _).alloc (by simp) _) (Nat.le_refl _)
    have H2 : Hid (Blk 24 (World.alloc (World.alloc W2 (Obj.cells #[Value.int IntKind.u32 3633889942, Value.int IntKind.u32 4104206661, Value.int IntKind.u32 770388896, Value.int IntKind.u32 1996717441, Value.int IntKind.u32 1671708914, Value.int IntKind.u32 4173129445, Value.int IntKind.u32 3777774151, Value.int IntKind.u32 1796723186] 55)) (Obj.cells #[Value.int IntKind.u32 935285237, Value.int IntKind.u32 3417718888, Value.int IntKind.u32 1798397646, Value.int IntKind.u32 734933847, Value.int IntKind.u32 2081398294, Value.int IntKind.u32 2397563722, Value.int IntKind.u32 4263149467, Value.int IntKind.u32 1340293858] 55)) w.heap.size [.slice none 0 0, .slice none 0 0] ∧ Nb (World.alloc (World.alloc W2 (Obj.cells #[Value.int IntKind.u32 3633889942, Value.int IntKind.u32 4104206661, Value.int IntKind.u32 770388896, Value.int IntKind.u32 1996717441, Value.int IntKind.u32 1671708914, Value.int IntKind.u32 4173129445, Value.int IntKind.u32 3777774151, Value.int IntKind.u32 1796723186] 55)) (Obj.cells #[Value.int IntKind.u32 935285237, Value.int IntKind.u32 3417718888, Value.int IntKind.u32 1798397646, Value.int IntKind.u32 734933847, Value.int IntKind.u32 2081398294, Value.int IntKind.u32 2397563722, Value.int IntKind.u32 4263149467, Value.int IntKind.u32 1340293858] 55)) (.slice (some ⟨W2.heap.size, 0, none⟩) 8 8) (crvN (·.gx) (crv 1)) ∧ Nb (World.alloc (World.alloc W2 (Obj.cells #[Value.int IntKind.u32 3633889942, Value.int IntKind.u32 4104206661, Value.int IntKind.u32 770388896, Value.int IntKind.u32 1996717441, Value.int IntKind.u32 1671708914, Value.int IntKind.u32 4173129445, Value.int IntKind.u32 3777774151, Value.int IntKind.u32 1796723186] 55)) (Obj.cells #[Value.int IntKind.u32 935285237, Value.int IntKind.u32 3417718888, Value.int IntKind.u32 1798397646, Value.int IntKind.u32 734933847, Value.int IntKind.u32 2081398294, Value.int IntKind.u32 2397563722, Value.int IntKind.u32 4263149467, Value.int IntKind.u32 1340293858] 55)) (.slice (some ⟨W2.heap.size + 1, 0, none⟩) 8 8) (crvN (·.gy) (crv 1)) ∧ Below w.heap.size w (World.alloc (World.alloc W2 (Obj.cells #[Value.int IntKind.u32 3633889942, Value.int IntKind.u32 4104206661, Value.int IntKind.u32 770388896, Value.int IntKind.u32 1996717441, Value.int IntKind.u32 1671708914, Value.int IntKind.u32 4173129445, Value.int IntKind.u32 3777774151, Value.int IntKind.u32 1796723186] 55)) (Obj.cells #[Value.int IntKind.u32 935285237, Value.int IntKind.u32 3417718888, Value.int IntKind.u32 1798397646, Value.int IntKind.u32 734933847, Value.int IntKind.u32 2081398294, Value.int IntKind.u32 2397563722, Value.int IntKind.u32 4263149467, Value.int IntKind.u32 1340293858] 55))) := ⟨hA, n0, n1, hb⟩
    clear hA hB hBw n0 n1 hb
    go_wp2
    obtain ⟨Wn, hWn⟩ : ∃ Wn, (World.alloc (World.alloc W2 (Obj.cells #[Value.int IntKind.u32 3633889942, Value.int IntKind.u32 4104206661, Value.int IntKind.u32 770388896, Value.int IntKind.u32 1996717441, Value.int IntKind.u32 1671708914, Value.int IntKind.u32 4173129445, Value.int IntKind.u32 3777774151, Value.int IntKind.u32 1796723186] 55)) (Obj.cells #[Value.int IntKind.u32 935285237, Value.int IntKind.u32 3417718888, Value.int IntKind.u32 1798397646, Value.int IntKind.u32 734933847, Value.int IntKind.u32 2081398294, Value.int IntKind.u32 2397563722, Value.int IntKind.u32 4263149467, Value.int IntKind.u32 1340293858] 55)) = Wn := ⟨_, rfl⟩
    rw [hWn] at H2 ⊢
    clear d0 d1 g0 g1 hWn
    obtain ⟨hF, hU⟩ := Blk.put2 H2.out.1 (.slice (some ⟨W2.heap.size, 0, none⟩) 8 8) (.slice (some ⟨W2.heap.size + 1, 0, none⟩) 8 8)
    have hbl := hU.below H2.out.2.2.2 H2.out.2.2.2.size (Nat.le_refl _)
    exact bodyPost_ret (v := .agg [.slice (some ⟨W2.heap.size, 0, none⟩) 8 8, .slice (some ⟨W2.heap.size + 1, 0, none⟩) 8 8].toArray) (results_blk (b := w.heap.size) (cs := [.slice (some ⟨W2.heap.size, 0, none⟩) 8 8, .slice (some ⟨W2.heap.size + 1, 0, none⟩) 8 8]) rfl rfl hF Try.underlying24 rfl Try.sizePt) rfl ⟨_, _, rfl, H2.out.2.1.upd H2.out.1 noInts hU, H2.out.2.2.1.upd H2.out.1 noInts hU, hbl⟩
  by_cases h2 : c = 2
  · subst h2
    go_enter Try.func53, Try.ntmps53
    go_upto_region 4 with (fail)
    refine wp_gen (fun W => Blk 24 W w.heap.size [.slice none 0 0, .slice none 0 0] ∧ Below w.heap.size w W) ⟨Blk.new _ w _, al1 _⟩ ?_
    rintro W2 ⟨hB, hBw⟩
    have hA : Blk 24 (World.alloc (World.alloc W2 (Obj.cells #[Value.int IntKind.u32 1920338615, Value.int IntKind.u32 978607672, Value.int IntKind.u32 3210029420, Value.int IntKind.u32 1426256477, Value.int IntKind.u32 2186553912, Value.int IntKind.u32 1509376480, Value.int IntKind.u32 2343017368, Value.int IntKind.u32 1847409506, Value.int IntKind.u32 4079005044, Value.int IntKind.u32 2394015518, Value.int IntKind.u32 3196781879, Value.int IntKind.u32 2861025826] 55)) (Obj.cells #[Value.int IntKind.u32 2431258207, Value.int IntKind.u32 2051218812, Value.int IntKind.u32 494829981, Value.int IntKind.u32 174109134, Value.int IntKind.u32 3052452032, Value.int IntKind.u32 3923390739, Value.int IntKind.u32 681186428, Value.int IntKind.u32 4176747965, Value.int IntKind.u32 2459098153, Value.int IntKind.u32 1570674879, Value.int IntKind.u32 2519084143, Value.int IntKind.u32 907533898] 55)) w.heap.size [.slice none 0 0, .slice none 0 0] := (hB.alloc _).alloc _
    have d0 : World.cell? (World.alloc (World.alloc W2 (Obj.cells #[Value.int IntKind.u32 1920338615, Value.int IntKind.u32 978607672, Value.int IntKind.u32 3210029420, Value.int IntKind.u32 1426256477, Value.int IntKind.u32 2186553912, Value.int IntKind.u32 1509376480, Value.int IntKind.u32 2343017368, Value.int IntKind.u32 1847409506, Value.int IntKind.u32 4079005044, Value.int IntKind.u32 2394015518, Value.int IntKind.u32 3196781879, Value.int IntKind.u32 2861025826] 55)) (Obj.cells #[Value.int IntKind.u32 2431258207, Value.int IntKind.u32 2051218812, Value.int IntKind.u32 494829981, Value.int IntKind.u32 174109134, Value.int IntKind.u32 3052452032, Value.int IntKind.u32 3923390739, Value.int IntKind.u32 681186428, Value.int IntKind.u32 4176747965, Value.int IntKind.u32 2459098153, Value.int IntKind.u32 1570674879, Value.int IntKind.u32 2519084143, Value.int IntKind.u32 907533898] 55)) ⟨w.heap.size, 0, none⟩ = some (.slice none 0 0) := hA.cell 0
    have d1 : World.cell? (World.alloc (World.alloc W2 (Obj.cells #[Value.int IntKind.u32 1920338615, Value.int IntKind.u32 978607672, Value.int IntKind.u32 3210029420, Value.int IntKind.u32 1426256477, Value.int IntKind.u32 2186553912, Value.int IntKind.u32 1509376480, Value.int IntKind.u32 2343017368, Value.int IntKind.u32 1847409506, Value.int IntKind.u32 4079005044, Value.int IntKind.u32 2394015518, Value.int IntKind.u32 3196781879, Value.int IntKind.u32 2861025826] 55)) (Obj.cells #[Value.int IntKind.u32 2431258207, Value.int IntKind.u32 2051218812, Value.int IntKind.u32 494829981, Value.int IntKind.u32 174109134, Value.int IntKind.u32 3052452032, Value.int IntKind.u32 3923390739, Value.int IntKind.u32 681186428, Value.int IntKind.u32 4176747965, Value.int IntKind.u32 2459098153, Value.int IntKind.u32 1570674879, Value.int IntKind.u32 2519084143, Value.int IntKind.u32 907533898] 55)) ⟨w.heap.size, 1, none⟩ = some (.slice none 0 0) := hA.cell 1
    have g0 : World.frozen? (World.alloc (World.alloc W2 (Obj.cells #[Value.int IntKind.u32 1920338615, Value.int IntKind.u32 978607672, Value.int IntKind.u32 3210029420, Value.int IntKind.u32 1426256477, Value.int IntKind.u32 2186553912, Value.int IntKind.u32 1509376480, Value.int IntKind.u32 2343017368, Value.int IntKind.u32 1847409506, Value.int IntKind.u32 4079005044, Value.int IntKind.u32 2394015518, Value.int IntKind.u32 3196781879, Value.int IntKind.u32 2861025826] 55)) (Obj.cells #[Value.int IntKind.u32 2431258207, Value.int IntKind.u32 2051218812, Value.int IntKind.u32 494829981, Value.int IntKind.u32 174109134, Value.int IntKind.u32 3052452032, Value.int IntKind.u32 3923390739, Value.int IntKind.u32 681186428, Value.int IntKind.u32 4176747965, Value.int IntKind.u32 2459098153, Value.int IntKind.u32 1570674879, Value.int IntKind.u32 2519084143, Value.int IntKind.u32 907533898] 55)) ⟨w.heap.size, 0, none⟩ = false := hA.frozen 0
    have g1 : World.frozen? (World.alloc (World.alloc W2 (Obj.cells #[Value.int IntKind.u32 1920338615, Value.int IntKind.u32 978607672, Value.int IntKind.u32 3210029420, Value.int IntKind.u32 1426256477, Value.int IntKind.u32 2186553912, Value.int IntKind.u32 1509376480, Value.int IntKind.u32 2343017368, Value.int IntKind.u32 1847409506, Value.int IntKind.u32 4079005044, Value.int IntKind.u32 2394015518, Value.int IntKind.u32 3196781879, Value.int IntKind.u32 2861025826] 55)) (Obj.cells #[Value.int IntKind.u32 2431258207, Value.int IntKind.u32 2051218812, Value.int IntKind.u32 494829981, Value.int IntKind.u32 174109134, Value.int IntKind.u32 3052452032, Value.int IntKind.u32 3923390739, Value.int IntKind.u32 681186428, Value.int IntKind.u32 4176747965, Value.int IntKind.u32 2459098153, Value.int IntKind.u32 1570674879, Value.int IntKind.u32 2519084143, Value.int IntKind.u32 907533898] 55)) ⟨w.heap.size, 1, none⟩ = false := hA.frozen 1
    have n0 : Nb (World.alloc (World.alloc W2 (Obj.cells #[Value.int IntKind.u32 1920338615, Value.int IntKind.u32 978607672, Value.int IntKind.u32 3210029420, Value.int IntKind.u32 1426256477, Value.int IntKind.u32 2186553912, Value.int IntKind.u32 1509376480, Value.int IntKind.u32 2343017368, Value.int IntKind.u32 1847409506, Value.int IntKind.u32 4079005044, Value.int IntKind.u32 2394015518, Value.int IntKind.u32 3196781879, Value.int IntKind.u32 2861025826] 55)) (Obj.cells #[Value.int IntKind.u32 2431258207, Value.int IntKind.u32 2051218812, Value.int IntKind.u32 494829981, Value.int IntKind.u32 174109134, Value.int IntKind.u32 3052452032, Value.int IntKind.u32 3923390739, Value.int IntKind.u32 681186428, Value.int IntKind.u32 4176747965, Value.int IntKind.u32 2459098153, Value.int IntKind.u32 1570674879, Value.int IntKind.u32 2519084143, Value.int IntKind.u32 907533898] 55)) (.slice (some ⟨W2.heap.size, 0, none⟩) 12 12) (crvN (·.gx) (crv 2)) := (nb_new (e := 55) (w := W2) [1920338615, 978607672, 3210029420, 1426256477, 2186553912, 1509376480, 2343017368, 1847409506, 4079005044, 2394015518, 3196781879, 2861025826] _ lim384gx).al _
    have n1 : Nb (World.alloc (World.alloc W2 (Obj.cells #[Value.int IntKind.u32 1920338615, Value.int IntKind.u32 978607672, Value.int IntKind.u32 3210029420, Value.int IntKind.u32 1426256477, Value.int IntKind.u32 2186553912, Value.int IntKind.u32 1509376480, Value.int IntKind.u32 2343017368, Value.int IntKind.u32 1847409506, Value.int IntKind.u32 4079005044, Value.int IntKind.u32 2394015518, Value.int IntKind.u32 3196781879, Value.int IntKind.u32 2861025826] 55)) (Obj.cells #[Value.int IntKind.u32 2431258207, Value.int IntKind.u32 2051218812, Value.int IntKind.u32 494829981, Value.int IntKind.u32 174109134, Value.int IntKind.u32 3052452032, Value.int IntKind.u32 3923390739, Value.int IntKind.u32 681186428, Value.int IntKind.u32 4176747965, Value.int IntKind.u32 2459098153, Value.int IntKind.u32 1570674879, Value.int IntKind.u32 2519084143, Value.int IntKind.u32 907533898] 55)) (.slice (some ⟨W2.heap.size + 1, 0, none⟩) 12 12) (crvN (·.gy) (crv 2)) := by have h := nb_new (e := 55) (w := World.alloc W2 (Obj.cells #[Value.int IntKind.u32 1920338615, Value.int IntKind.u32 978607672, Value.int IntKind.u32 3210029420, Value.int IntKind.u32 1426256477, Value.int IntKind.u32 2186553912, Value.int IntKind.u32 1509376480, Value.int IntKind.u32 2343017368, Value.int IntKind.u32 1847409506, Value.int IntKind.u32 4079005044, Value.int IntKind.u32 2394015518, Value.int IntKind.u32 3196781879, Value.int IntKind.u32 2861025826] 55)) [2431258207, 2051218812, 494829981, 174109134, 3052452032, 3923390739, 681186428, 4176747965, 2459098153, 1570674879, 2519084143, 907533898] (crvN (·.gy) (crv 2)) lim384gy; rw [World.size_alloc] at h; exact h
    have hb : Below w.heap.size w (World.alloc (World.alloc W2 (Obj.cells #[Value.int IntKind.u32 1920338615, Value.int IntKind.u32 978607672, Value.int IntKind.u32 3210029420, Value.int IntKind.u32 1426256477, Value.int IntKind.u32 2186553912, Value.int IntKind.u32 1509376480, Value.int IntKind.u32 2343017368, Value.int IntKind.u32 1847409506, Value.int IntKind.u32 4079005044, Value.int IntKind.u32 2394015518, Value.int IntKind.u32 3196781879, Value.int IntKind.u32 2861025826] 55)) (Obj.cells #[Value.int IntKind.u32 2431258207, Value.int IntKind.u32 2051218812, Value.int IntKind.u32 494829981, Value.int IntKind.u32 174109134, Value.int IntKind.u32 3052452032, Value.int IntKind.u32 3923390739, Value.int IntKind.u32 681186428, Value.int IntKind.u32 4176747965, Value.int IntKind.u32 2459098153, Value.int IntKind.u32 1570674879, Value.int IntKind.u32 2519084143, Value.int IntKind.u32 907533898] 55)) := below_via hBw ((al1 _).alloc (by simp) _) (Nat.le_refl _)
    have H2 : Hid (Blk 24 (World.alloc (World.alloc W2 (Obj.cells #[Value.int IntKind.u32 1920338615, Value.int IntKind.u32 978607672, Value.int IntKind.u32 3210029420, Value.int IntKind.u32 1426256477, Value.int IntKind.u32 2186553912, Value.int IntKind.u32 1509376480, Value.int IntKind.u32 2343017368, Value.int IntKind.u32 1847409506, Value.int IntKind.u32 4079005044, Value.int IntKind.u32 2394015518, Value.int IntKind.u32 3196781879, Value.int IntKind.u32 2861025826] 55)) (Obj.cells #[Value.int IntKind.u32 2431258207, Value.int IntKind.u32 2051218812, Value.int IntKind.u32 494829981, Value.int IntKind.u32 174109134, Value.int IntKind.u32 3052452032, Value.int IntKind.u32 3923390739, Value.int IntKind.u32 681186428, Value.int IntKind.u32 4176747965, Value.int IntKind.u32 2459098153, Value.int IntKind.u32 1570674879, Value.int IntKind.u32 2519084143, Value.int IntKind.u32 907533898] 55)) w.heap.size [.slice none 0 0, .slice none 0 0] ∧ Nb (World.alloc (World.alloc W2 (Obj.cells #[Value.int IntKind.u32 1920338615, Value.int IntKind.u32 978607672, Value.int IntKind.u32 3210029420, Value.int IntKind.u32 1426256477, Value.int IntKind.u32 2186553912, Value.int IntKind.u32 1509376480, Value.int IntKind.u32 2343017368, Value.int IntKind.u32 1847409506, Value.int IntKind.u32 4079005044, Value.int IntKind.u32 2394015518, Value.int IntKind.u32 3196781879, Value.int IntKind.u32 2861025826] 55)) (Obj.cells #[Value.int IntKind.u32 2431258207, Value.int IntKind.u32 2051218812, Value.int IntKind.u32 494829981, Value.int IntKind.u32 174109134, Value.int IntKind.u32 3052452032, Value.int IntKind.u32 3923390739, Value.int IntKind.u32 681186428, Value.int IntKind.u32 4176747965, Value.int IntKind.u32 2459098153, Value.int IntKind.u32 1570674879, Value.int IntKind.u32 2519084143, Value.int IntKind.u32 907533898] 55)) (.slice (some ⟨W2.heap.size, 0, none⟩) 12 12) (crvN (·.gx) (crv 2)) ∧ Nb (World.alloc (World.alloc W2 (Obj.cells #[Value.int IntKind.u32 1920338615, Value.int IntKind.u32 978607672, Value.int IntKind.u32 3210029420, Value.int IntKind.u32 1426256477, Value.int IntKind.u32 2186553912, Value.int IntKind.u32 1509376480, Value.int IntKind.u32 2343017368, Value.int IntKind.u32 1847409506, Value.int IntKind.u32 4079005044, Value.int IntKind.u32 2394015518, Value.int IntKind.u32 3196781879, Value.int IntKind.u32 2861025826] 55)) (Obj.cells #[Value.int IntKind.u32 2431258207, Value.int IntKind.u32 2051218812, Value.int IntKind.u32 494829981, Value.int IntKind.u32 174109134, Value.int IntKind.u32 3052452032, Value.int IntKind.u32 3923390739, Value.int IntKind.u32 681186428, Value.int IntKind.u32 4176747965, Value.int IntKind.u32 2459098153, Value.int IntKind.u32 1570674879, Value.int IntKind.u32 2519084143, Value.int IntKind.u32 907533898] 55)) (.slice (some ⟨W2.heap.size + 1, 0, none⟩) 12 12) (crvN (·.gy) (crv 2)) ∧ Below w.heap.size w (World.alloc (World.alloc W2 (Obj.cells #[Value.int IntKind.u32 1920338615, Value.int IntKind.u32 978607672, Value.int IntKind.u32 3210029420, Value.int IntKind.u32 1426256477, Value.int IntKind.u32 2186553912, Value.int IntKind.u32 1509376480, Value.int IntKind.u32 2343017368, Value.int IntKind.u32 1847409506, Value.int IntKind.u32 4079005044, Value.int IntKind.u32 2394015518, Value.int IntKind.u32 3196781879, Value.int IntKind.u32 2861025826] 55)) (Obj.cells #[Value.int IntKind.u32 2431258207, Value.int IntKind.u32 2051218812, Value.int IntKind.u32 494829981, Value.int IntKind.u32 174109134, Value.int IntKind.u32 3052452032, Value.int IntKind.u32 3923390739, Value.int IntKind.u32 681186428, Value.int IntKind.u32 4176747965, Value.int IntKind.u32 2459098153, Value.int IntKind.u32 1570674879, Value.int IntKind.u32 2519084143, Value.int IntKind.u32 907533898] 55))) := ⟨hA, n0, n1, hb⟩
    clear hA hB hBw n0 n1 hb
    go_wp2
    obtain ⟨Wn, hWn⟩ : ∃ Wn, (World.alloc (World.alloc W2 (Obj.cells #[Value.int IntKind.u32 1920338615, Value.int IntKind.u32 978607672, Value.int IntKind.u32 3210029420, Value.int IntKind.u32 1426256477, Value.int IntKind.u32 2186553912, Value.int IntKind.u32 1509376480, Value.int IntKind.u32 2343017368, Value.int IntKind.u32 1847409506, Value.int IntKind.u32 4079005044, Value.int IntKind.u32 2394015518, Value.int IntKind.u32 3196781879, Value.int IntKind.u32 2861025826] 55)) (Obj.cells #[Value.int IntKind.u32 2431258207, Value.int IntKind.u32 2051218812, Value.int IntKind.u32 494829981, Value.int IntKind.u32 174109134, Value.int IntKind.u32 3052452032, Value.int IntKind.u32 3923390739, Value.int IntKind.u32 681186428, Value.int IntKind.u32 4176747965, Value.int IntKind.u32 2459098153, Value.int IntKind.u32 1570674879, Value.int IntKind.u32 2519084143, Value.int IntKind.u32 907533898] 55)) = Wn := ⟨_, rfl⟩
    rw [hWn] at H2 ⊢
    clear d0 d1 g0 g1 hWn
    obtain ⟨hF, hU⟩ := Blk.put2 H2.out.1 (.slice (some ⟨W2.heap.size, 0, none⟩) 12 12) (.slice (some ⟨W2.heap.size + 1, 0, none⟩) 12 12)
    have hbl := hU.below H2.out.2.2.2 H2.out.2.2.2.size (Nat.le_refl _)
    exact bodyPost_ret (v := .agg [.slice (some ⟨W2.heap.size, 0, none⟩) 12 12, .slice (some ⟨W2.heap.size + 1, 0, none⟩) 12 12].toArray) (results_blk (b := w.heap.size) (cs := [.slice (some ⟨W2.heap.size, 0, none⟩) 12 12, .slice (some ⟨W2.heap.size + 1, 0, none⟩) 12 12]) rfl rfl hF Try.underlying24 rfl Try.sizePt) rfl ⟨_, _, rfl, H2.out.2.1.upd H2.out.1 noInts hU, H2.out.2.2.1.upd H2.out.1 noInts hU, hbl⟩
  · have HN : Hid (crv c = none) := by show _ = _; unfold crv; rw [if_neg h1, if_neg h2]
    go_enter Try.func53, Try.ntmps53
    go_upto_region 5 with (fail)
    refine wp_gen (fun W => Blk 24 W w.heap.size [.slice none 0 0, .slice none 0 0] ∧ Below w.heap.size w W) ⟨Blk.new _ w _, al1 _⟩ ?_
    rintro W2 ⟨hB, hBw⟩
    have H2 : Hid (Blk 24 W2 w.heap.size [.slice none 0 0, .slice none 0 0] ∧ Below w.heap.size w W2) := ⟨hB, hBw⟩
    have d0 : W2.cell? ⟨w.heap.size, 0, none⟩ = some (.slice none 0 0) := hB.cell 0
    have d1 : W2.cell? ⟨w.heap.size, 1, none⟩ = some (.slice none 0 0) := hB.cell 1
    have g0 := hB.frozen 0; have g1 := hB.frozen 1
    clear hB hBw
    go_wp2
    obtain ⟨hF, hU⟩ := Blk.put2 H2.out.1 (.slice none 0 0) (.slice none 0 0)
    have hbl := hU.below H2.out.2 H2.out.2.size (Nat.le_refl _)
    exact bodyPost_ret (v := .agg [.slice none 0 0, .slice none 0 0].toArray) (results_blk (b := w.heap.size) (cs := [.slice none 0 0, .slice none 0 0]) rfl rfl hF Try.underlying24 rfl Try.sizePt) rfl ⟨_, _, rfl, by rw [HN.out]; exact nil_nb _, by rw [HN.out]; exact nil_nb _, hbl⟩
theorem num09_any (x : Int) (w : World) : Calls Try.prog 16 #[.int .i64 x] w fun e w' => e = .returned (.int .i64 x) ∧ w = w' := by
  go_enter Try.func16, Try.ntmps16
  go_wp2
  go_ret
  exact ⟨rfl, rfl⟩
set_option maxHeartbeats 2000000 in
theorem SameP_any {w : World} (a b c d : Value) (x y : Nat) (ha : Nb w a x) (hb : Nb w b y) (hc : Nb w c x) (hd : Nb w d y) (lx : (lim x).length ≤ 1000) (ly : (lim y).length ≤ 1000) :
    Calls Try.prog 15 #[.agg #[a, b], .agg #[c, d]] w fun e w' => e = .returned (.bool true) ∧ Below w.heap.size w w' := by
  have HX : Hid (∀ W, Below w.heap.size w W → Calls Try.prog 50 #[a, c] W fun e w' => e = .returned (.bool true) ∧ Below W.heap.size W w') := fun W hW => Nt.Same_any a c (lim x) (ha.below hW) (hc.below hW) (by omega)
  have HY : Hid (∀ W, Below w.heap.size w W → Calls Try.prog 50 #[b, d] W fun e w' => e = .returned (.bool true) ∧ Below W.heap.size W w') := fun W hW => Nt.Same_any b d (lim y) (hb.below hW) (hd.below hW) (by omega)
  clear ha hb hc hd lx ly
  go_enter Try.func15, Try.ntmps15
  go_upto_region 1 with (first | (refine wpList_boxR rfl 24 (.tmp 0) rfl #[a, b] rfl ?_) | (refine wpList_boxR rfl 24 (.tmp 1) rfl #[c, d] rfl ?_))
  refine wp_gen (fun W => Blk 24 W w.heap.size [a, b] ∧ Blk 24 W (w.heap.size + 1) [c, d] ∧ Below w.heap.size w W) ⟨(Blk.new _ w _).alloc _, by have := Blk.new 24 (w.alloc (.cells [a, b].toArray 24)) [c, d]; rw [World.size_alloc] at this; exact this, (al1 _).alloc (by simp) _⟩ ?_
  rintro W2 ⟨hB, hB2, hBw⟩
  have H2 : Hid (Below w.heap.size w W2 ∧ ∀ W3, Below W2.heap.size W2 W3 → W3.cell? ⟨w.heap.size, 1, none⟩ = some b ∧ W3.cell? ⟨w.heap.size + 1, 1, none⟩ = some d ∧ Below w.heap.size w W3) := ⟨hBw, fun W3 h3 => ⟨(below_blk h3 hB.lt hB).cell 1, (below_blk h3 hB2.lt hB2).cell 1, below_via hBw h3 (Nat.le_refl _)⟩⟩
  have p0 : W2.cell? ⟨w.heap.size, 0, none⟩ = some a := hB.cell 0
  have p1 : W2.cell? ⟨w.heap.size + 1, 0, none⟩ = some c := hB2.cell 0
  clear hB hB2 hBw
  go_wp2_with fail
  refine (HX.out _ H2.out.1).mono ?_
  rintro e w3 ⟨rfl, hb3⟩
  obtain ⟨q0, q1, hb⟩ := H2.out.2 _ hb3
  have H3 : Hid (Below w.heap.size w w3) := hb
  clear hb hb3 p0 p1
  go_wp2_with fail
  refine (HY.out _ H3.out).mono ?_
  rintro e w4 ⟨rfl, hb4⟩
  have H4 : Hid (Below w.heap.size w w4) := below_via H3.out hb4 (Nat.le_refl _)
  clear hb4 q0 q1
  go_wp2
  go_ret
  exact ⟨rfl, H4.out⟩
set_option maxHeartbeats 2000000 in
theorem Parse_two {w : World} (ba : Nat) (cp : Nat) (h0 : w.cell? ⟨ba, 0, none⟩ = some (.int .u8 2)) (hl : ba < w.heap.size) :
    Calls Try.prog 24 #[.int .i64 1, .slice (some ⟨ba, 0, none⟩) 65 cp] w fun e w' => e = .returned (.tuple #[.agg [.slice none 0 0, .slice none 0 0].toArray, .int .i64 6]) ∧ Below w.heap.size w w' := by
  go_enter Try.func24, Try.ntmps24
  go_upto_region 1 with (fail)
  refine wp_gen (fun W => Blk 24 W w.heap.size [.slice none 0 0, .slice none 0 0] ∧ Below w.heap.size w W) ⟨Blk.new _ w _, al1 _⟩ ?_
  rintro W2 ⟨hB, hBw⟩
  have H2 : Hid (Below w.heap.size w W2 ∧ Blk 24 W2 w.heap.size [.slice none 0 0, .slice none 0 0] ∧ W2.cell? ⟨ba, 0, none⟩ = some (.int .u8 2) ∧ ba < W2.heap.size) := ⟨hBw, hB, (hBw.cell (p := ⟨ba, 0, none⟩) hl).trans h0, Nat.lt_of_lt_of_le hl hBw.size⟩
  clear hB hBw h0 hl
  go_wp2_with fail
  refine (pick_yes 1 c256 rfl).mono ?_
  rintro e w3 ⟨s, a1, n1, c1, a2, n2, c2, a3, n3, c3, a4, n4, c4, a5, n5, c5, rfl, hk, hb3⟩
  have hs : s = 32 := hk.1
  subst hs
  have H3 : Hid (Below w.heap.size w w3 ∧ Blk 24 w3 w.heap.size [.slice none 0 0, .slice none 0 0] ∧ w3.cell? ⟨ba, 0, none⟩ = some (.int .u8 2) ∧ ba < w3.heap.size) := ⟨below_via H2.out.1 hb3 (Nat.le_refl _), below_blk hb3 H2.out.2.1.lt H2.out.2.1, (hb3.cell (p := ⟨ba, 0, none⟩) H2.out.2.2.2).trans H2.out.2.2.1, Nat.lt_of_lt_of_le H2.out.2.2.2 hb3.size⟩
  clear hk hb3
  go_upto_region 2 with (fail)
  refine wp_gen (fun W => Blk 66 W w3.heap.size [.int .i64 32, .slice a1 n1 c1, .slice a2 n2 c2, .slice a3 n3 c3, .slice a4 n4 c4, .slice a5 n5 c5] ∧ Below w3.heap.size w3 W) ⟨Blk.new _ _ _, al1 _⟩ ?_
  rintro W4 ⟨hB4, hb4⟩
  have k0 : W4.cell? ⟨w3.heap.size, 0, none⟩ = some (.int .i64 32) := hB4.cell 0
  have q0 : W4.cell? ⟨ba, 0, none⟩ = some (.int .u8 2) := (hb4.cell (p := ⟨ba, 0, none⟩) H3.out.2.2.2).trans H3.out.2.2.1
  have hB := below_blk hb4 H3.out.2.1.lt H3.out.2.1
  have H4 : Hid (Below w.heap.size w W4 ∧ Blk 24 W4 w.heap.size [.slice none 0 0, .slice none 0 0]) := ⟨below_via H3.out.1 hb4 (Nat.le_refl _), hB⟩
  have d0 : W4.cell? ⟨w.heap.size, 0, none⟩ = some (.slice none 0 0) := hB.cell 0
  have d1 : W4.cell? ⟨w.heap.size, 1, none⟩ = some (.slice none 0 0) := hB.cell 1
  have g0 := hB.frozen 0; have g1 := hB.frozen 1
  clear hB hB4 hb4
  go_wp2
  obtain ⟨hF, hU⟩ := Blk.put2 H4.out.2 (.slice none 0 0) (.slice none 0 0)
  have hbl := hU.below H4.out.1 H4.out.1.size (Nat.le_refl _)
  exact bodyPost_ret (results_blk2 rfl rfl hF Try.underlying24 rfl Try.sizePt rfl) rfl ⟨rfl, hbl⟩
end Go.Proofs.Yteagdgbcfbkfbaa
