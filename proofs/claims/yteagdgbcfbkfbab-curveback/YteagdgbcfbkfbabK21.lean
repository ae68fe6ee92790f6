/-
  The walks of Same, SameBytes, num; literals in memory.
-/
import Derived.Test.YteagdgbcfbkfbabK20
namespace Go.Proofs.Yteagdgbcfbkfbab.Nt
open Go.RowKit

set_option maxHeartbeats 1000000 in
theorem Same_any {w : World} (v u : Value) (xs : List Int) (hx : Sl .u32 w v xs) (hy : Sl .u32 w u xs) (lx : xs.length ≤ 1152921504606846976) :
    Calls Try.prog 25 #[v, u] w fun e w' => e = .returned (.bool true) ∧ Below w.heap.size w w' := by
  obtain ⟨a1, c1, rfl, hc1, h1⟩ := hx
  obtain ⟨a2, c2, rfl, hc2, h2⟩ := hy
  by_cases hne : xs = []
  · subst hne
    simp only [List.length_nil]
    go_enter Try.func25, Try.ntmps25
    go_wp2
    go_loop [5] (fun i => i = .int .i64 0) (fun _ => 0)
    case atStart => rfl
    case round =>
      subst hrel
      go_wp2
      go_ret
      exact ⟨rfl, Below.refl _ _⟩
  · rcases h1 with h1 | ⟨b1, o1, rfl, hb1, hr1⟩
    · exact absurd h1 hne
    rcases h2 with h2 | ⟨b2, o2, rfl, hb2, hr2⟩
    · exact absurd h2 hne
    obtain ⟨n, hn⟩ : ∃ n, xs.length = n := ⟨_, rfl⟩
    rw [hn] at lx hc1 hc2 ⊢
    have HN : Hid (xs.length = n) := hn
    clear hn hne
    go_enter Try.func25, Try.ntmps25
    go_wp2
    go_loopw [5] (fun i wr => ∃ k : Nat, k ≤ n ∧ i = .int .i64 k ∧ Below w.heap.size w wr) (fun i _ => n - (intOf i).toNat)
    case atStart => exact ⟨0, Nat.zero_le _, rfl, Below.refl _ _⟩
    case round =>
      obtain ⟨k, hk, rfl, hB⟩ := hrel
      by_cases hkn : k < n
      · obtain ⟨x, hx⟩ : ∃ x, xs.getD k 0 = x := ⟨_, rfl⟩
        have hcx : wr.cell? ⟨b1, o1 + k, none⟩ = some (.int .u32 x) := by rw [← hx]; exact (below_rd hB hb1 hr1) k (by rw [HN.out]; exact hkn)
        have hcy : wr.cell? ⟨b2, o2 + k, none⟩ = some (.int .u32 x) := by rw [← hx]; exact (below_rd hB hb2 hr2) k (by rw [HN.out]; exact hkn)
        have HB : Hid (Below w.heap.size w wr) := hB
        clear hx hB hr1 hr2
        go_wp2
        go_quiet (fail)
        go_wp2
        go_roundw
        case rel => exact ⟨k + 1, by omega, by go_num, HB.out.trans ⟨rfl, rfl, rfl, Nat.le_refl _, fun _ _ => rfl⟩⟩
        case measure => simp [intOf]; omega
      · have HB : Hid (Below w.heap.size w wr) := hB
        clear hB
        go_wp2
        go_ret
        exact ⟨rfl, HB.out⟩

set_option maxHeartbeats 1000000 in
theorem SameBytes_any {w : World} (v u : Value) (xs : List Int) (hx : Sl .u8 w v xs) (hy : Sl .u8 w u xs) (lx : xs.length ≤ 1152921504606846976) :
    Calls Try.prog 11 #[v, u] w fun e w' => e = .returned (.bool true) ∧ Below w.heap.size w w' := by
  obtain ⟨a1, c1, rfl, hc1, h1⟩ := hx
  obtain ⟨a2, c2, rfl, hc2, h2⟩ := hy
  by_cases hne : xs = []
  · subst hne
    simp only [List.length_nil]
    go_enter Try.func11, Try.ntmps11
    go_wp2
    go_loop [5] (fun i => i = .int .i64 0) (fun _ => 0)
    case atStart => rfl
    case round =>
      subst hrel
      go_wp2
      go_ret
      exact ⟨rfl, Below.refl _ _⟩
  · rcases h1 with h1 | ⟨b1, o1, rfl, hb1, hr1⟩
    · exact absurd h1 hne
    rcases h2 with h2 | ⟨b2, o2, rfl, hb2, hr2⟩
    · exact absurd h2 hne
    obtain ⟨n, hn⟩ : ∃ n, xs.length = n := ⟨_, rfl⟩
    rw [hn] at lx hc1 hc2 ⊢
    have HN : Hid (xs.length = n) := hn
    clear hn hne
    go_enter Try.func11, Try.ntmps11
    go_wp2
    go_loopw [5] (fun i wr => ∃ k : Nat, k ≤ n ∧ i = .int .i64 k ∧ Below w.heap.size w wr) (fun i _ => n - (intOf i).toNat)
    case atStart => exact ⟨0, Nat.zero_le _, rfl, Below.refl _ _⟩
    case round =>
      obtain ⟨k, hk, rfl, hB⟩ := hrel
      by_cases hkn : k < n
      · obtain ⟨x, hx⟩ : ∃ x, xs.getD k 0 = x := ⟨_, rfl⟩
        have hcx : wr.cell? ⟨b1, o1 + k, none⟩ = some (.int .u8 x) := by rw [← hx]; exact (below_rd hB hb1 hr1) k (by rw [HN.out]; exact hkn)
        have hcy : wr.cell? ⟨b2, o2 + k, none⟩ = some (.int .u8 x) := by rw [← hx]; exact (below_rd hB hb2 hr2) k (by rw [HN.out]; exact hkn)
        have HB : Hid (Below w.heap.size w wr) := hB
        clear hx hB hr1 hr2
        go_wp2
        go_quiet (fail)
        go_wp2
        go_roundw
        case rel => exact ⟨k + 1, by omega, by go_num, HB.out.trans ⟨rfl, rfl, rfl, Nat.le_refl _, fun _ _ => rfl⟩⟩
        case measure => simp [intOf]; omega
      · have HB : Hid (Below w.heap.size w wr) := hB
        clear hB
        go_wp2
        go_ret
        exact ⟨rfl, HB.out⟩

theorem arr_new {k : IntKind} {e : TypeId} {w : World} {b : Nat} {cs : Array Value} {xs : List Int} (hb : b = w.heap.size) (h : cs = (xs.map (Value.int k)).toArray) : Arr k e (w.alloc (.cells cs e)) b xs := by
  subst hb; subst h; unfold Arr; rw [heap_alloc_new]
theorem arr_old {k : IntKind} {e : TypeId} {w : World} {b : Nat} {xs : List Int} {o : Obj} (h : Arr k e w b xs) : Arr k e (w.alloc o) b xs := by
  exact below_arr ((Below.refl _ _).alloc (Nat.le_refl _) o) h.lt h
theorem al1 {k : IntKind} {w : World} {v : Value} {xs : List Int} {o : Obj} (h : Sl k w v xs) : Sl k (w.alloc o) v xs := below_sl ((Below.refl _ _).alloc (Nat.le_refl _) o) h
theorem grow0 {a w w' : World} (h : Below a.heap.size a w) (hB : Below w.heap.size w w') : Below a.heap.size a w' := h.trans (hB.mono h.size)
theorem al {a w : World} {o : Obj} (h : Below a.heap.size a w) : Below a.heap.size a (w.alloc o) := h.alloc h.size o
theorem _root_.Go.Proofs.Yteagdgbcfbkfbab.Arr.sl8 {w : World} {b : Nat} {S : List Int} (h : Arr .u8 5 w b S) : Sl .u8 w (.slice (some ⟨b, 0, none⟩) S.length S.length) S :=
  ⟨_, _, rfl, Nat.le_refl _, .inr ⟨b, 0, rfl, h.lt, by have := h.rd 0 S.length (by omega); rw [List.drop_zero, List.take_length] at this; exact this⟩⟩
theorem lim_of {N : Int} {xs : List Int} (hu : U32s xs) (hs : sig xs = xs.length) (h : val xs = N) : lim N.toNat = xs := by rw [← h]; exact lim_val hu hs
theorem u1 {x : Int} (h : 0 ≤ x) (h' : x < 4294967296) : U32s [x] := U32s.cons ⟨h, h'⟩ U32s.nil
theorem u2 {x y : Int} (h : 0 ≤ x) (h' : x < 4294967296) (k : 0 ≤ y) (k' : y < 4294967296) : U32s [x, y] := U32s.cons ⟨h, h'⟩ (u1 k k')
theorem u3 {x y z : Int} (h : 0 ≤ x) (h' : x < 4294967296) (k : 0 ≤ y) (k' : y < 4294967296) (j : 0 ≤ z) (j' : z < 4294967296) : U32s [x, y, z] := U32s.cons ⟨h, h'⟩ (u2 k k' j j')

/-! ### the page's examples, one by one -/
theorem live_add {w : World} {v u : Value} (h : Sl .u32 w v [4294967295]) (h' : Sl .u32 w u [1]) :
    Calls Try.prog 43 #[v, u] w fun e w' => ∃ r, e = .returned (.tuple #[r, .int .i64 0]) ∧ Sl .u32 w' r [0, 1] ∧ Below w.heap.size w w' := by
  refine (Add_any _ _ _ _ _ h h' (u1 (by decide) (by decide)) (u1 (by decide) (by decide))).mono ?_
  have e1 : addS [4294967295] [1] = ([0, 1], 0) := by
    have : lim (val [4294967295] + val [1]).toNat = [0, 1] := lim_of (u2 (by decide) (by decide) (by decide) (by decide)) (by decide) (by decide)
    simp [addS, this, fit]
  rintro e w' ⟨⟨r, rfl, hr⟩, hB⟩
  rw [e1] at hr
  exact ⟨r, by rw [e1], hr.sl, hB⟩
theorem live_sub {w : World} {v u : Value} (h : Sl .u32 w v [0, 1]) (h' : Sl .u32 w u [1]) :
    Calls Try.prog 44 #[v, u] w fun e w' => ∃ r, e = .returned (.tuple #[r, .int .i64 0]) ∧ Sl .u32 w' r [4294967295] ∧ Below w.heap.size w w' := by
  refine (Sub_any _ _ _ _ _ h h' (u2 (by decide) (by decide) (by decide) (by decide)) (u1 (by decide) (by decide))).mono ?_
  have e1 : subS [0, 1] [1] = ([4294967295], 0) := by
    have : lim (val [0, 1] - val [1]).toNat = [4294967295] := lim_of (u1 (by decide) (by decide)) (by decide) (by decide)
    have h2 : ¬ val [0, 1] < val [1] := by decide
    simp [subS, this, h2]
  rintro e w' ⟨⟨r, rfl, hr⟩, hB⟩
  rw [e1] at hr
  exact ⟨r, by rw [e1], hr.sl, hB⟩
theorem live_mul {w : World} {v u : Value} (h : Sl .u32 w v [0, 1]) (h' : Sl .u32 w u [0, 1]) :
    Calls Try.prog 51 #[v, u] w fun e w' => ∃ r, e = .returned (.tuple #[r, .int .i64 0]) ∧ Sl .u32 w' r [0, 0, 1] ∧ Below w.heap.size w w' := by
  refine (Mul_any _ _ _ _ _ h h' (u2 (by decide) (by decide) (by decide) (by decide)) (u2 (by decide) (by decide) (by decide) (by decide))).mono ?_
  have e1 : mulS [0, 1] [0, 1] = ([0, 0, 1], 0) := by
    have : lim (val [0, 1] * val [0, 1]).toNat = [0, 0, 1] := lim_of (u3 (by decide) (by decide) (by decide) (by decide) (by decide) (by decide)) (by decide) (by decide)
    simp [mulS, this, fit]
  rintro e w' ⟨⟨r, rfl, hr⟩, hB⟩
  rw [e1] at hr
  exact ⟨r, by rw [e1], hr.sl, hB⟩
theorem live_div {w : World} {v u : Value} (h : Sl .u32 w v [7]) (h' : Sl .u32 w u [2]) :
    Calls Try.prog 52 #[v, u] w fun e w' => ∃ q r, e = .returned (.tuple #[q, r, .int .i64 0]) ∧ Sl .u32 w' q [3] ∧ Sl .u32 w' r [1] ∧ Below w.heap.size w w' := by
  refine (DivMod_any _ _ _ _ _ h h' (u1 (by decide) (by decide)) (u1 (by decide) (by decide)) (.inl (by decide))).mono ?_
  have e1 : divS [7] [2] = ([3], [1], 0) := by
    have t1 : lim (val [7] / val [2]).toNat = [3] := lim_of (u1 (by decide) (by decide)) (by decide) (by decide)
    have t2 : lim (val [7] % val [2]).toNat = [1] := lim_of (u1 (by decide) (by decide)) (by decide) (by decide)
    have h2 : ¬ val [2] = 0 := by decide
    simp [divS, t1, t2, h2]
  rintro e w' ⟨⟨q, r, rfl, hq, hr⟩, hB⟩
  rw [e1] at hr hq
  exact ⟨q, r, by rw [e1], hq.sl, hr.sl, hB⟩
theorem live_inv {w : World} {v u : Value} (h : Sl .u32 w v [3]) (h' : Sl .u32 w u [7]) :
    Calls Try.prog 46 #[v, u] w fun e w' => ∃ r, e = .returned (.tuple #[r, .int .i64 0]) ∧ Sl .u32 w' r [5] ∧ Below w.heap.size w w' := by
  refine (Inverse_any _ _ _ _ _ h h' (u1 (by decide) (by decide)) (u1 (by decide) (by decide)) (.inl (by decide))).mono ?_
  rintro e w' ⟨s, hs, ⟨r, rfl, hr⟩, hB⟩
  have e1 : s = ([5], 0) := by
    unfold InvS at hs
    rw [if_neg (by decide), if_neg (by decide)] at hs
    have v3 : val [3] = 3 := by decide
    have v7 : val [7] = 7 := by decide
    rw [v3, v7] at hs
    rcases hs with ⟨G, g0, g1, ⟨t, ht⟩, rfl⟩ | ⟨D, d0, d1, d2, rfl⟩
    · have hG : G = 5 := by omega
      subst hG
      have : lim (Int.toNat 5) = [5] := lim_of (u1 (by decide) (by decide)) (by decide) (by decide)
      rw [this]
    · obtain ⟨x, hx⟩ := d1
      obtain ⟨y, hy⟩ := d2
      exfalso
      have hd := Int.le_of_dvd (by decide) (show D ∣ 3 from ⟨x, hx⟩)
      have hD : D = 2 ∨ D = 3 := by omega
      rcases hD with rfl | rfl <;> omega
  subst e1
  exact ⟨r, rfl, hr.sl, hB⟩
theorem live_byt {w : World} {v : Value} (h : Sl .u32 w v [258]) :
    Calls Try.prog 19 #[v, .int .i64 3] w fun e w' => ∃ r, e = .returned (.tuple #[r, .int .i64 0]) ∧ Sl .u8 w' r [0, 1, 2] ∧ Below w.heap.size w w' := by
  refine (Bytes_any [258] 3 _ _ h (u1 (by decide) (by decide)) (by decide) (by decide)).mono ?_
  have e1 : bytS [258] 3 = ([0, 1, 2], 0) := by
    unfold bytS
    rw [if_neg (by decide), if_neg (by decide), if_neg (by decide)]
    rfl
  rintro e w' ⟨⟨r, rfl, hr, _⟩, hB⟩
  rw [e1] at hr
  exact ⟨r, by rw [e1], hr.sl, hB⟩
end Go.Proofs.Yteagdgbcfbkfbab.Nt
/-
  The reference's Base, Same; the page's helpers; Parse of bytes that begin with 2. (wip/mku31.py)
-/
namespace Go.Proofs.Yteagdgbcfbkfbab
open Go.RowKit
set_option maxRecDepth 20000
theorem num09_any (x : Int) (w : World) : Calls Try.prog 7 #[.int .i64 x] w fun e w' => e = .returned (.int .i64 x) ∧ w = w' := by
  go_enter Try.func7, Try.ntmps7
  go_wp2
  go_ret
  exact ⟨rfl, rfl⟩
set_option maxHeartbeats 2000000 in
theorem SameP_any {w : World} (a b c d : Value) (x y : Nat) (ha : Nb w a x) (hb : Nb w b y) (hc : Nb w c x) (hd : Nb w d y) (lx : (lim x).length ≤ 1000) (ly : (lim y).length ≤ 1000) :
    Calls Try.prog 9 #[.agg #[a, b], .agg #[c, d]] w fun e w' => e = .returned (.bool true) ∧ Below w.heap.size w w' := by
  have HX : Hid (∀ W, Below w.heap.size w W → Calls Try.prog 25 #[a, c] W fun e w' => e = .returned (.bool true) ∧ Below W.heap.size W w') := fun W hW => Nt.Same_any a c (lim x) (ha.below hW) (hc.below hW) (by omega)
  have HY : Hid (∀ W, Below w.heap.size w W → Calls Try.prog 25 #[b, d] W fun e w' => e = .returned (.bool true) ∧ Below W.heap.size W w') := fun W hW => Nt.Same_any b d (lim y) (hb.below hW) (hd.below hW) (by omega)
  clear ha hb hc hd lx ly
  go_enter Try.func9, Try.ntmps9
  go_upto_region 1 with (first | (refine wpList_boxR rfl 27 (.tmp 0) rfl #[a, b] rfl ?_) | (refine wpList_boxR rfl 27 (.tmp 1) rfl #[c, d] rfl ?_))
  refine wp_gen (fun W => Blk 27 W w.heap.size [a, b] ∧ Blk 27 W (w.heap.size + 1) [c, d] ∧ Below w.heap.size w W) ⟨(Blk.new _ w _).alloc _, by have := Blk.new 27 (w.alloc (.cells [a, b].toArray 27)) [c, d]; rw [World.size_alloc] at this; exact this, (al1 _).alloc (by simp) _⟩ ?_
  rintro W2 ⟨hB, hB2, hBw⟩
  have H2 : Hid (Below w.heap.size w W2 ∧ ∀ W3, Below W2.heap.size W2 W3 → W3.cell? ⟨w.heap.size, 1, none⟩ = some b ∧ W3.cell? ⟨w.heap.size + 1, 1, none⟩ = some d ∧ Below w.heap.size w W3) := ⟨hBw, fun W3 h3 => ⟨(below_blk h3 hB.lt hB).cell 1, (below_blk h3 hB2.lt hB2).cell 1, below_via hBw h3 (Nat.le_refl _)⟩⟩
  have p0 : W2.cell? ⟨w.heap.size, 0, none⟩ = some a := hB.cell 0
  have p1 : W2.cell? ⟨w.heap.size + 1, 0, none⟩ = some c := hB2.cell 0
  clear hB hB2 hBw
  go_wp2_with fail
  refine (HX.out _ H2.out.1).mono ?_
  rintro e w3 ⟨rfl, hb3⟩
  obtain ⟨q0, q1, hb⟩ := H2.out.2 _ hb3
  have H3 : Hid (Below w.heap.size w w3) := hb
  clear hb hb3 p0 p1
  go_wp2_with fail
  refine (HY.out _ H3.out).mono ?_
  rintro e w4 ⟨rfl, hb4⟩
  have H4 : Hid (Below w.heap.size w w4) := below_via H3.out hb4 (Nat.le_refl _)
  clear hb4 q0 q1
  go_wp2
  go_ret
  exact ⟨rfl, H4.out⟩
set_option maxHeartbeats 2000000 in
theorem Parse_two {w : World} (ba : Nat) (cp : Nat) (h0 : w.cell? ⟨ba, 0, none⟩ = some (.int .u8 2)) (hl : ba < w.heap.size) :
    Calls Try.prog 8 #[.int .i64 1, .slice (some ⟨ba, 0, none⟩) 65 cp] w fun e w' => e = .returned (.tuple #[.agg [.slice none 0 0, .slice none 0 0].toArray, .int .i64 6]) ∧ Below w.heap.size w w' := by
  go_enter Try.func8, Try.ntmps8
  go_upto_region 1 with (fail)
  refine wp_gen (fun W => Blk 27 W w.heap.size [.slice none 0 0, .slice none 0 0] ∧ Below w.heap.size w W) ⟨Blk.new _ w _, al1 _⟩ ?_
  rintro W2 ⟨hB, hBw⟩
  have H2 : Hid (Below w.heap.size w W2 ∧ Blk 27 W2 w.heap.size [.slice none 0 0, .slice none 0 0] ∧ W2.cell? ⟨ba, 0, none⟩ = some (.int .u8 2) ∧ ba < W2.heap.size) := ⟨hBw, hB, (hBw.cell (p := ⟨ba, 0, none⟩) hl).trans h0, Nat.lt_of_lt_of_le hl hBw.size⟩
  clear hB hBw h0 hl
  go_wp2_with fail
  refine (pick_yes 1 c256 rfl).mono ?_
  rintro e w3 ⟨s, a1, n1, c1, a2, n2, c2, a3, n3, c3, a4, n4, c4, a5, n5, c5, rfl, hk, hb3⟩
  have hs : s = 32 := hk.1
  subst hs
  have H3 : Hid (Below w.heap.size w w3 ∧ Blk 27 w3 w.heap.size [.slice none 0 0, .slice none 0 0] ∧ w3.cell? ⟨ba, 0, none⟩ = some (.int .u8 2) ∧ ba < w3.heap.size) := ⟨below_via H2.out.1 hb3 (Nat.le_refl _), below_blk hb3 H2.out.2.1.lt H2.out.2.1, (hb3.cell (p := ⟨ba, 0, none⟩) H2.out.2.2.2).trans H2.out.2.2.1, Nat.lt_of_lt_of_le H2.out.2.2.2 hb3.size⟩
  clear hk hb3
  go_upto_region 2 with (fail)
  refine wp_gen (fun W => Blk 46 W w3.heap.size [.int .i64 32, .slice a1 n1 c1, .slice a2 n2 c2, .slice a3 n3 c3, .slice a4 n4 c4, .slice a5 n5 c5] ∧ Below w3.heap.size w3 W) ⟨Blk.new _ _ _, al1 _⟩ ?_
  rintro W4 ⟨hB4, hb4⟩
  have k0 : W4.cell? ⟨w3.heap.size, 0, none⟩ = some (.int .i64 32) := hB4.cell 0
  have q0 : W4.cell? ⟨ba, 0, none⟩ = some (.int .u8 2) := (hb4.cell (p := ⟨ba, 0, none⟩) H3.out.2.2.2).trans H3.out.2.2.1
  have hB := below_blk hb4 H3.out.2.1.lt H3.out.2.1
  have H4 : Hid (Below w.heap.size w W4 ∧ Blk 27 W4 w.heap.size [.slice none 0 0, .slice none 0 0]) := ⟨below_via H3.out.1 hb4 (Nat.le_refl _), hB⟩
  have d0 : W4.cell? ⟨w.heap.size, 0, none⟩ = some (.slice none 0 0) := hB.cell 0
  have d1 : W4.cell? ⟨w.heap.size, 1, none⟩ = some (.slice none 0 0) := hB.cell 1
  have g0 := hB.frozen 0; have g1 := hB.frozen 1
  clear hB hB4 hb4
  go_wp2
  obtain ⟨hF, hU⟩ := Blk.put2 H4.out.2 (.slice none 0 0) (.slice none 0 0)
  have hbl := hU.below H4.out.1 H4.out.1.size (Nat.le_refl _)
  exact bodyPost_ret (results_blk2 rfl rfl hF Try.underlying27 rfl Try.sizePt rfl) rfl ⟨rfl, hbl⟩
end Go.Proofs.Yteagdgbcfbkfbab
/-
  The numbers of the page's examples. (wip/mku32.py)
-/
namespace Go.Proofs.Yteagdgbcfbkfbab
open Go.RowKit
set_option maxRecDepth 100000
theorem inv_one {p z g h : Nat} (hg : g < p) (hh : h < p) (eg : z * g % p = 1 % p) (eh : z * h % p = 1 % p) : g = h := by
  have e1 : z * g * h % p = h := by rw [Nat.mul_mod, eg, ← Nat.mul_mod, Nat.one_mul, Nat.mod_eq_of_lt hh]
  have e2 : z * h * g % p = g := by rw [Nat.mul_mod, eh, ← Nat.mul_mod, Nat.one_mul, Nat.mod_eq_of_lt hg]
  rw [Nat.mul_right_comm] at e1
  exact e2.symm.trans e1
def exT : Nat × Nat × Nat := (69923961955967387994258645329874512676251231789611885617885350872868369909519, 29468416531536242154810423193772930342200868632530199947817229236472112149969, 72268501913499591597170255839175763913222213345970030143754396507136828810218)
def exG : Nat := 56574125023949875979384902335110527424677819735484098786822054576870411640858
def exX : Nat := 56515219790691171413109057904011688695424810155802929973526481321309856242040
def exY : Nat := 3377031843712258259223711451491452598088675519751548567112458094635497583569
theorem exT_eq : mixA c256 [] [2] (lim c256.gx) (lim c256.gy) = exT := by
  unfold mixA
  rw [lim256gx, lim256gy]
  decide +kernel
theorem exT_gcd : Nat.gcd exT.2.2 c256.p = 1 := by decide +kernel
theorem ex_on : onB c256.p c256.b (lim c256.gx) (lim c256.gy) = true := by rw [lim256gx, lim256gy]; decide +kernel
theorem ex_on2 : onB c384.p c384.b (lim c384.gx) (lim c384.gy) = true := by rw [lim384gx, lim384gy]; decide +kernel
theorem exj {X Y : Nat} (h : jpt c256.p exT X Y) : X = exX ∧ Y = exY := by
  rcases h with ⟨h0, _⟩ | ⟨_, g, hg, hz, rfl, rfl⟩
  · exact absurd h0 (by decide +kernel)
  · have e : g = exG := inv_one (z := exT.2.2) hg (by decide +kernel) hz (by decide +kernel)
    subst e
    exact ⟨by decide +kernel, by decide +kernel⟩
theorem exX_lim : lim exX = [1197906296, 2785757436, 2012355381, 3230231010, 78977731, 2320644099, 2365804414, 2096266008] := lim_of_val _ (by decide +kernel) (by decide +kernel) (by decide +kernel)
theorem exY_lim : lim exY = [578319313, 2651109277, 1021936169, 3128798694, 2675192027, 691903174, 3683569728, 125261072] := lim_of_val _ (by decide +kernel) (by decide +kernel) (by decide +kernel)
theorem ex_on3 : onC 1 (lim exX) (lim exY) = true := by
  rw [exX_lim, exY_lim]; decide +kernel
def exN : Nat := 31076295234905449226732288810623505625791886221604131073239087501765218571612451104608622327865990668783520461484448
theorem exN_eq : fsb c384.p 0 c384.gy = exN := by decide +kernel
theorem exN_lim : lim exN = [1863709088, 2243748484, 3800137314, 4120858160, 1242515262, 371576556, 3613780867, 118219330, 1835869142, 2724292416, 1775883152, 3387433397] := lim_of_val _ (by decide +kernel) (by decide +kernel) (by decide +kernel)
theorem ex_on4 : onB c384.p c384.b (lim c384.gx) (lim exN) = true := by rw [lim384gx, exN_lim]; decide +kernel
theorem exS : jsm c384.p (triB (lim c384.gx) (lim exN)) (triB (lim c384.gx) (lim c384.gy)) = (0, 0, 0) := by rw [lim384gx, exN_lim, lim384gy]; decide +kernel
theorem exj0 {p X Y : Nat} (h : jpt p (0, 0, 0) X Y) : X = 0 ∧ Y = 0 := by
  rcases h with ⟨_, h1, h2⟩ | ⟨h0, _⟩
  · exact ⟨h1, h2⟩
  · exact absurd rfl h0
end Go.Proofs.Yteagdgbcfbkfbab
