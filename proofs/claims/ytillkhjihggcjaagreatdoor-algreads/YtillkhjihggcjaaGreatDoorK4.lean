/-
  Der: the page's example of an object identifier.
-/
import Derived.Lib.OthersKept
import Derived.Laws.RangeString
import Derived.Lib.Tables
import Derived.Deep.RegionHeld3
import Derived.Test.YtillkhjihggcjaaGreatDoorK3
namespace Go.Proofs.YtillkhjihggcjaaGreatDoor
open Go.RowKit
set_option maxHeartbeats 1000000 in
theorem AppS_1 {w : World} (v : Value) (B n : Nat) (X : List Int) (hX : Row .u8 5 B w v X) (hn : X.length = n) (hl : n ≤ 1000) (hB : B ≤ w.heap.size) :
    Calls Tryz.prog 113 #[v, .int .u64 1, .int .i64 10] w fun e w' => ∃ r, e = .returned r ∧ Row .u8 5 B w' r (X ++ [49]) ∧ Below B w w' := by
  have HC : Hid (Calls Tryz.prog 130 #[v, .int .u64 1, .int .i64 10] w fun e w' => ∃ r, e = .returned r ∧ Row .u8 5 B w' r (X ++ [49]) ∧ Below B w w') := AppI_1 v B n X hX hn hl hB
  go_enter Tryz.func113, Tryz.ntmps113
  go_wp2_with fail
  refine HC.out.mono ?_
  rintro e w1 ⟨r, rfl, hr, hb⟩
  go_wp2
  go_ret
  exact ⟨_, rfl, hr, hb⟩
set_option maxHeartbeats 1000000 in
theorem AppS_2 {w : World} (v : Value) (B n : Nat) (X : List Int) (hX : Row .u8 5 B w v X) (hn : X.length = n) (hl : n ≤ 1000) (hB : B ≤ w.heap.size) :
    Calls Tryz.prog 113 #[v, .int .u64 2, .int .i64 10] w fun e w' => ∃ r, e = .returned r ∧ Row .u8 5 B w' r (X ++ [50]) ∧ Below B w w' := by
  have HC : Hid (Calls Tryz.prog 130 #[v, .int .u64 2, .int .i64 10] w fun e w' => ∃ r, e = .returned r ∧ Row .u8 5 B w' r (X ++ [50]) ∧ Below B w w') := AppI_2 v B n X hX hn hl hB
  go_enter Tryz.func113, Tryz.ntmps113
  go_wp2_with fail
  refine HC.out.mono ?_
  rintro e w1 ⟨r, rfl, hr, hb⟩
  go_wp2
  go_ret
  exact ⟨_, rfl, hr, hb⟩
set_option maxHeartbeats 1000000 in
theorem AppS_840 {w : World} (v : Value) (B n : Nat) (X : List Int) (hT : Tab w) (hX : Row .u8 5 B w v X) (hn : X.length = n) (hl : n ≤ 1000) (hB : B ≤ w.heap.size) :
    Calls Tryz.prog 113 #[v, .int .u64 840, .int .i64 10] w fun e w' => ∃ r, e = .returned r ∧ Row .u8 5 B w' r (X ++ [56, 52, 48]) ∧ Below B w w' := by
  have HC : Hid (Calls Tryz.prog 130 #[v, .int .u64 840, .int .i64 10] w fun e w' => ∃ r, e = .returned r ∧ Row .u8 5 B w' r (X ++ [56, 52, 48]) ∧ Below B w w') := AppI_840 v B n X hT hX hn hl hB
  go_enter Tryz.func113, Tryz.ntmps113
  go_wp2_with fail
  refine HC.out.mono ?_
  rintro e w1 ⟨r, rfl, hr, hb⟩
  go_wp2
  go_ret
  exact ⟨_, rfl, hr, hb⟩
theorem Max_live {w : World} (b c : Nat) (x y : Int) (hxy : x < y) (h0 : w.cell? ⟨b, 0, none⟩ = some (.int .u64 x)) (h1 : w.cell? ⟨b, 1, none⟩ = some (.int .u64 y)) :
    Calls Tryz.prog 112 #[.slice (some ⟨b, 0, none⟩) 2 c] w fun e w' => e = .returned (.int .u64 y) ∧ w = w' := by
  have hm : max x y = y := by omega
  go_enter Tryz.func112, Tryz.ntmps112
  go_wp2_with fail
  refine wp_loop_rounds 2 ?_
  rw [rounds_succ]
  go_wp2_with fail
  rw [rounds_succ]
  go_wp2
  go_ret
  exact ⟨rfl, rfl⟩
theorem row_str {w : World} {B : Nat} {v : Value} {xs : List Int} {n : Nat} (h : Row .u8 5 B w v xs) (hn : xs.length = n) (h0 : 0 < n) : ∃ b c, v = .slice (some ⟨b, 0, none⟩) n c ∧ Sem.run Tryz.prog (convert 22 9 (.slice (some ⟨b, 0, none⟩) n c)) w = .ok (.string (strOfNums xs)) w := by
  obtain ⟨b, S, rfl, _, hA, hl, ht, _⟩ := h.open n hn h0
  refine ⟨b, _, rfl, run_convert_bytes_arg w _ _ Tryz.und8 Tryz.e8 b 0 n _ xs hn (fun i hi => ?_) _ Tryz.str⟩
  have e : S.getD i 0 = xs.getD i 0 := by
    rw [List.getD_eq_getElem?_getD, List.getD_eq_getElem?_getD, ← ht, List.getElem?_take, if_pos hi]
  rw [Nat.zero_add, hA.cell i (by omega), e]
set_option maxRecDepth 20000 in
set_option maxHeartbeats 4000000 in
theorem Oid_live {w : World} (b : Nat) (hT : Tab w) (hA : Arr .u8 5 w b [42, 134, 72]) :
    Calls Tryz.prog 93 #[.slice (some ⟨b, 0, none⟩) 3 3] w fun e w' => e = .returned (.tuple #[.string ⟨#[49, 46, 50, 46, 56, 52, 48]⟩, .int .i64 0]) ∧ Below w.heap.size w w' := by
  have HX : Hid (Tab w ∧ Arr .u8 5 w b [42, 134, 72]) := ⟨hT, hA⟩
  clear hT hA
  go_enter Tryz.func93, Tryz.ntmps93
  go_wp2_with fail
  refine (laidArcs_live b HX.out.2).mono ?_
  rintro e w1 ⟨r, rfl, hr, hb⟩
  obtain ⟨b1, S1, rfl, hB1, hA1, hl1, ht1, hm1⟩ := hr.open 2 rfl (by omega)
  obtain ⟨k1, hk1⟩ : ∃ k, S1.length = k := ⟨_, rfl⟩
  rw [hk1]
  have g0 : S1.getD 0 0 = 42 := by
    have : (S1.take 2).getD 0 0 = 42 := by rw [ht1]; rfl
    rwa [List.getD_eq_getElem?_getD, List.getElem?_take, if_pos (by omega), ← List.getD_eq_getElem?_getD] at this
  have g1 : S1.getD 1 0 = 840 := by
    have : (S1.take 2).getD 1 0 = 840 := by rw [ht1]; rfl
    rwa [List.getD_eq_getElem?_getD, List.getElem?_take, if_pos (by omega), ← List.getD_eq_getElem?_getD] at this
  have c0 : w1.cell? ⟨b1, 0, none⟩ = some (.int .u64 42) := by rw [hA1.cell 0 (by omega), g0]
  have c1 : w1.cell? ⟨b1, 1, none⟩ = some (.int .u64 840) := by rw [hA1.cell 1 (by omega), g1]
  have f0 := hA1.frozen 0
  have H1 : Hid (Arr .u64 136 w1 b1 S1 ∧ w.heap.size ≤ b1 ∧ Below w.heap.size w w1 ∧ 2 ≤ S1.length ∧ S1.getD 1 0 = 840) := ⟨hA1, hB1, hb, hl1, g1⟩
  clear hr hb hA1 hB1 hl1 ht1 hm1 g0 g1 hk1
  have hx : min (1 : Int) 2 = 1 := by decide
  go_upto_region 6 with (fail)
  refine wp_gen (fun W => Below w.heap.size w W ∧ W.cell? ⟨b1, 0, none⟩ = some (.int .u64 2) ∧ W.cell? ⟨b1, 1, none⟩ = some (.int .u64 840) ∧ b1 < W.heap.size) ?_ ?_
  · have hA := H1.out.1.set 0 2
    have hl := H1.out.2.2.2.1
    refine ⟨(Upd.set w1 b1 0 _).below H1.out.2.2.1 H1.out.2.2.1.size H1.out.2.1, ?_, ?_, hA.lt⟩
    · rw [hA.cell 0 (by rw [List.length_set]; omega), List.getD_eq_getElem?_getD, List.getElem?_set_self (by omega)]; rfl
    · rw [hA.cell 1 (by rw [List.length_set]; omega), List.getD_eq_getElem?_getD, List.getElem?_set_ne (by omega), ← List.getD_eq_getElem?_getD, H1.out.2.2.2.2]
  rintro w2 ⟨hb2, d0, d1, hlt⟩
  have H2 : Hid (Below w.heap.size w w2 ∧ Tab w2) := ⟨hb2, HX.out.1.below hb2⟩
  clear hb2 c0 c1 f0
  go_wp2_with (go_at_call 112; refine (Max_live b1 k1 2 840 (by decide) d0 d1).mono ?_; rintro e w' ⟨rfl, rfl⟩)
  refine (AppS_1 _ w2.heap.size 0 [] (Row.nil _ _ _ _) rfl (by omega) (Nat.le_refl _)).mono ?_
  rintro e w3 ⟨r3, rfl, hr3, hb3⟩
  obtain ⟨a3, c3, hv⟩ := hr3.ne
  replace hv : r3 = .slice a3 1 c3 := hv
  subst hv
  have H3 : Hid (Row .u8 5 w2.heap.size w3 (.slice a3 1 c3) [49] ∧ Below w2.heap.size w2 w3) := ⟨hr3, hb3⟩
  have e0 : w3.cell? ⟨b1, 0, none⟩ = some (.int .u64 2) := by rw [hb3.cell (p := ⟨b1, 0, none⟩) hlt]; exact d0
  clear hr3 hb3
  go_wp2_with fail
  refine wp_loop_rounds 3 ?_
  rw [rounds_succ]
  go_wp2_with (at_builtin; refine wpList_ap rfl (.tmp 40) (.tmp 41) 22 22 rfl .u8 5 1 Tryz.und8 Tryz.info8 (by decide) w2.heap.size _ [49] rfl (H3.out.1.alloc _) _ [46] rfl (src_sl Tryz.und8 (new1 46)) (by decide) (by have := H3.out.2.size; simp; omega) ?_; intro v4 w4 hr hg)
  have hb4 : Below w2.heap.size w2 w4 := (H3.out.2.alloc H3.out.2.size _).trans (hg.below (H3.out.1.alloc _) (by have := H3.out.2.size; simp; omega))
  have H4 : Hid (Row .u8 5 w2.heap.size w4 v4 [49, 46] ∧ Below w2.heap.size w2 w4) := ⟨hr, hb4⟩
  clear hr hg hb4 e0
  refine (AppS_2 v4 w2.heap.size 2 [49, 46] H4.out.1 rfl (by omega) H4.out.2.size).mono ?_
  rintro e w5 ⟨r5, rfl, hr5, hb5⟩
  obtain ⟨a5, c5, hv⟩ := hr5.ne
  replace hv : r5 = .slice a5 3 c5 := hv
  subst hv
  have H5 : Hid (Row .u8 5 w2.heap.size w5 (.slice a5 3 c5) [49, 46, 50] ∧ Below w2.heap.size w2 w5) := ⟨hr5, H4.out.2.trans hb5⟩
  have e1 : w5.cell? ⟨b1, 1, none⟩ = some (.int .u64 840) := by rw [H5.out.2.cell (p := ⟨b1, 1, none⟩) hlt]; exact d1
  clear hr5 hb5
  go_wp2_with fail
  rw [rounds_succ]
  go_wp2_with (at_builtin; refine wpList_ap rfl (.tmp 40) (.tmp 41) 22 22 rfl .u8 5 1 Tryz.und8 Tryz.info8 (by decide) w2.heap.size _ [49, 46, 50] rfl (H5.out.1.alloc _) _ [46] rfl (src_sl Tryz.und8 (new1 46)) (by decide) (by have := H5.out.2.size; simp; omega) ?_; intro v6 w6 hr hg)
  have hb6 : Below w2.heap.size w2 w6 := (H5.out.2.alloc H5.out.2.size _).trans (hg.below (H5.out.1.alloc _) (by have := H5.out.2.size; simp; omega))
  have H6 : Hid (Row .u8 5 w2.heap.size w6 v6 [49, 46, 50, 46] ∧ Below w2.heap.size w2 w6) := ⟨hr, hb6⟩
  clear hr hg hb6 e1
  refine (AppS_840 v6 w2.heap.size 4 [49, 46, 50, 46] (H2.out.2.below H6.out.2) H6.out.1 rfl (by omega) H6.out.2.size).mono ?_
  rintro e w7 ⟨r7, rfl, hr7, hb7⟩
  have H7 : Hid (Below w2.heap.size w2 w7) := H6.out.2.trans hb7
  obtain ⟨b7, c7, hv, hcv⟩ := row_str (n := 7) hr7 rfl (by omega)
  subst hv
  rw [show strOfNums ([49, 46, 50, 46] ++ [56, 52, 48]) = ⟨#[49, 46, 50, 46, 56, 52, 48]⟩ from rfl] at hcv
  clear hr7 hb7
  go_wp2_with fail
  rw [rounds_succ]
  go_wp2
  go_ret2
  exact ⟨rfl, below_via H2.out.1 H7.out (Nat.le_refl _)⟩
end Go.Proofs.YtillkhjihggcjaaGreatDoor
/-
  Der: the page's example of an object identifier laid.
-/
namespace Go.Proofs.YtillkhjihggcjaaGreatDoor
open Go.RowKit
theorem or_136 : bits .or .u8 8 128 = 136 := by decide +kernel
theorem and_55 : bits .and .u64 1079 127 = 55 := by decide +kernel
abbrev exS : ByteArray := ⟨#[50, 46, 57, 57, 57]⟩
def It (w W : World) (pos : Nat) : Prop := W.heap[w.heap.size]? = some (.stringIter exS pos) ∧ Below w.heap.size w W
theorem It.step {w W : World} {pos : Nat} (h : It w W pos) (pos' : Nat) : It w (W.iterAt w.heap.size exS pos') pos' := ⟨Lib.iterAt_heap W _ exS pos pos' h.1, Lib.below_iterAt h.2 (Nat.le_refl _) _ _⟩
theorem It.below {w W W' : World} {pos : Nat} (h : It w W pos) (hb : Below (w.heap.size + 1) W W') : It w W' pos := ⟨by rw [hb.block _ (by omega)]; exact h.1, h.2.trans (hb.mono (by omega))⟩
theorem It.lt {w W : World} {pos : Nat} (h : It w W pos) : w.heap.size < W.heap.size := (Array.getElem?_eq_some_iff.1 h.1).1
theorem row_iter {k : IntKind} {e : TypeId} {w W : World} {v : Value} {xs : List Int} (pos : Nat) (h : Row k e (w.heap.size + 1) W v xs) : Row k e (w.heap.size + 1) (W.iterAt w.heap.size exS pos) v xs := by
  rcases h with h | ⟨b, S, rfl, h1, hA, h2⟩
  · exact .inl h
  · exact .inr ⟨b, S, rfl, h1, by unfold Arr; rw [Lib.iterAt_other W _ _ exS pos (by omega)]; exact hA, h2⟩
end Go.Proofs.YtillkhjihggcjaaGreatDoor
/-
  Der: rows of bits.
-/
namespace Go.Proofs.YtillkhjihggcjaaGreatDoor
open Go.RowKit
/-- Are these bytes a row of bits? -/
def bitsOk (X : List Int) : Bool :=
  if X.length < 2 then decide (X.length = 1) && decide (X.getD 0 0 = 0) else decide (X.getD 0 0 ≤ 7) && decide (X.getD (X.length - 1) 0 % 2 ^ (X.getD 0 0).toNat = 0)
theorem and_1 (x : Int) (h : U8 x) : bits .and .u8 x 1 = x % 2 := by obtain ⟨h0, h1⟩ := h; go_bits2
theorem and_3 (x : Int) (h : U8 x) : bits .and .u8 x 3 = x % 4 := by obtain ⟨h0, h1⟩ := h; go_bits2
theorem and_7 (x : Int) (h : U8 x) : bits .and .u8 x 7 = x % 8 := by obtain ⟨h0, h1⟩ := h; go_bits2
theorem and_15 (x : Int) (h : U8 x) : bits .and .u8 x 15 = x % 16 := by obtain ⟨h0, h1⟩ := h; go_bits2
theorem and_31 (x : Int) (h : U8 x) : bits .and .u8 x 31 = x % 32 := by obtain ⟨h0, h1⟩ := h; go_bits2
theorem and_63 (x : Int) (h : U8 x) : bits .and .u8 x 63 = x % 64 := by obtain ⟨h0, h1⟩ := h; go_bits2
theorem and_127 (x : Int) (h : U8 x) : bits .and .u8 x 127 = x % 128 := by obtain ⟨h0, h1⟩ := h; go_bits2
theorem and_0 (x : Int) : bits .and .u8 x 0 = 0 := by unfold bits; simp; rfl
set_option maxHeartbeats 4000000 in
theorem isBits_any {w : World} (v : Value) (X : List Int) (hX : Sl .u8 w v X) (uX : U8s X) (hl : X.length ≤ 16384) :
    Calls Tryz.prog 97 #[v] w fun e w' => e = .returned (.bool (bitsOk X)) ∧ w = w' := by
  obtain ⟨a, c, rfl, hc, hx⟩ := hX
  obtain ⟨n, hn⟩ : ∃ n, X.length = n := ⟨_, rfl⟩
  obtain ⟨B, hB⟩ : ∃ B, bitsOk X = B := ⟨_, rfl⟩
  rw [hB]
  have hBd := hB
  unfold bitsOk at hBd
  rw [hn] at hBd hc hl
  simp only [hn]
  by_cases h0 : n = 0
  · subst h0
    rw [if_pos (by omega)] at hBd
    simp at hBd
    subst hBd
    clear hB hx
    go_enter Tryz.func97, Tryz.ntmps97
    go_wp2
    go_ret
    exact ⟨rfl, rfl⟩
  · rcases hx with hx | ⟨b, off, rfl, hb, hr⟩
    · rw [hx] at hn; simp at hn; omega
    · obtain ⟨s, hs⟩ : ∃ s, X.getD 0 0 = s := ⟨_, rfl⟩
      obtain ⟨s0, s1⟩ : U8 s := hs ▸ uX.at 0
      have c0 : w.cell? ⟨b, off, none⟩ = some (.int .u8 s) := by have := hr 0 (by omega); rw [hs] at this; exact this
      rw [hs] at hBd
      by_cases h1 : n = 1
      · subst h1
        rw [if_pos (by omega)] at hBd
        simp only [decide_true, Bool.true_and] at hBd
        clear hB hr uX hn hs
        go_enter Tryz.func97, Tryz.ntmps97
        go_wp2
        go_ret
        refine ⟨?_, rfl⟩
        rw [← hBd]; rfl
      · obtain ⟨x, hxx⟩ : ∃ x, X.getD (n - 1) 0 = x := ⟨_, rfl⟩
        have ux : U8 x := hxx ▸ uX.at (n - 1)
        have c1 : w.cell? ⟨b, off + (n - 1), none⟩ = some (.int .u8 x) := by have := hr (n - 1) (by omega); rw [hxx] at this; exact this
        rw [if_neg (by omega), hxx] at hBd
        have hnI : (2 : Int) ≤ (n : Int) := by omega
        clear hB hr uX hn hs hxx h0 h1
        by_cases h7 : s ≤ 7
        · have hs8 : s = 0 ∨ s = 1 ∨ s = 2 ∨ s = 3 ∨ s = 4 ∨ s = 5 ∨ s = 6 ∨ s = 7 := by omega
          have a0 := and_0 x
          have a1 := and_1 x ux
          have a3 := and_3 x ux
          have a7 := and_7 x ux
          have a15 := and_15 x ux
          have a31 := and_31 x ux
          have a63 := and_63 x ux
          have a127 := and_127 x ux
          rcases hs8 with rfl | rfl | rfl | rfl | rfl | rfl | rfl | rfl
          all_goals go_enter Tryz.func97, Tryz.ntmps97
          all_goals go_wp2
          all_goals go_ret
          · refine ⟨?_, rfl⟩
            rw [← hBd]
            show Ending.returned (.bool true) = _
            simp
          all_goals refine ⟨?_, rfl⟩
          all_goals rw [← hBd]
          all_goals rfl
        · have : B = false := by rw [← hBd]; simp; omega
          subst this
          clear hBd
          go_enter Tryz.func97, Tryz.ntmps97
          go_wp2
          go_ret
          exact ⟨rfl, rfl⟩
theorem wrapI (z : Int) (h0 : 0 ≤ z) (h1 : z < 9223372036854775808) : IntKind.i64.wrap z = z := by rw [IntKind.wrap_i64]; omega
/-- What Bits answers. -/
def BitsAns (B : Nat) (w : World) (X : List Int) (e : Ending) : Prop :=
  (bitsOk X = true ∧ ∃ r, e = .returned (.tuple #[r, .int .i64 (X.getD 0 0), .int .i64 0]) ∧ Row .u8 5 B w r (X.drop 1)) ∨ (bitsOk X = false ∧ e = .returned (.tuple #[.slice none 0 0, .int .i64 0, .int .i64 6]))
theorem bitsOk_pos {X : List Int} (h : bitsOk X = true) : 0 < X.length := by
  unfold bitsOk at h
  by_cases h0 : X.length = 0
  · rw [h0] at h; simp at h
  · omega
theorem sl_tail {w : World} {n c : Nat} {X : List Int} {b off : Nat} (hb : b < w.heap.size) (hr : Rd .u8 w b off X) (hn : X.length = n) (h0 : 0 < n) (hc : n ≤ c) : Sl .u8 w (.slice (if c = 1 then some ⟨b, off, none⟩ else some ⟨b, off + 1, none⟩) (n - 1) (c - 1)) (X.drop 1) := by
  have hl : (X.drop 1).length = n - 1 := by rw [List.length_drop, hn]
  refine ⟨_, _, by rw [hl], by omega, ?_⟩
  by_cases h : c = 1
  · exact .inl (List.eq_nil_of_length_eq_zero (by omega))
  · rw [if_neg h]
    refine .inr ⟨b, off + 1, rfl, hb, fun k hk => ?_⟩
    have := hr (1 + k) (by omega)
    rw [Nat.add_assoc, this, List.getD_eq_getElem?_getD, List.getD_eq_getElem?_getD, List.getElem?_drop]
set_option maxRecDepth 20000 in
set_option maxHeartbeats 2000000 in
theorem Bits_any {w : World} (v : Value) (X : List Int) (hX : Sl .u8 w v X) (uX : U8s X) (hl : X.length ≤ 16384) :
    Calls Tryz.prog 76 #[v] w fun e w' => BitsAns w.heap.size w' X e ∧ Below w.heap.size w w' := by
  have HC : Hid (∀ w', w = w' → Calls Tryz.prog 97 #[v] w' fun e w'' => e = .returned (.bool (bitsOk X)) ∧ w' = w'') := fun w' h => by subst h; exact isBits_any v X hX uX hl
  by_cases hk : bitsOk X = true
  · obtain ⟨a, c, rfl, hc, hx⟩ := hX
    have hp := bitsOk_pos hk
    obtain ⟨n, hn⟩ : ∃ n, X.length = n := ⟨_, rfl⟩
    rcases hx with hx | ⟨b, off, rfl, hb, hr⟩
    · rw [hx] at hp; simp at hp
    · rw [hn] at hc hp hl
      simp only [hn] at HC ⊢
      rw [hk] at HC
      obtain ⟨s, hs⟩ : ∃ s, X.getD 0 0 = s := ⟨_, rfl⟩
      have c0 : w.cell? ⟨b, off, none⟩ = some (.int .u8 s) := by have := hr 0 (by omega); rw [hs] at this; exact this
      obtain ⟨s0, s1⟩ : U8 s := hs ▸ uX.at 0
      obtain ⟨ba, hba⟩ : ∃ ba : Option Addr, (if c = 1 then some ⟨b, off, none⟩ else some ⟨b, off + 1, none⟩) = ba := ⟨_, rfl⟩
      have HS : Hid (∀ W : World, Rd .u8 W b off X → b < W.heap.size → Sl .u8 W (.slice ba (n - 1) (c - 1)) (X.drop 1)) := fun W h hb' => by
        rw [← hba]; exact sl_tail hb' h hn hp hc
      have HX : Hid (bitsOk X = true ∧ X.getD 0 0 = s ∧ Rd .u8 w b off X ∧ (X.drop 1).length ≤ 16384) := ⟨hk, hs, hr, by rw [List.length_drop]; omega⟩
      have hnI : (1 : Int) ≤ (n : Int) := by omega
      have hcI : (1 : Int) ≤ (c : Int) := by omega
      have hws : IntKind.i64.wrap s = s := wrapI s (by omega) (by omega)
      clear hk hs hr hn uX
      go_enter Tryz.func76, Tryz.ntmps76
      go_upto_region 3 with (go_at_call 97; refine (HC.out _ rfl).mono ?_; rintro e w' ⟨rfl, rfl⟩)
      go_region_held3 (fun w' => w'.cell? ⟨b, off, none⟩ = some (.int .u8 s)) (first | go_keep | (rw [hb5.cell (p := ⟨b, off, none⟩) hb]; go_keep))
        ((go_at_call 98; refine (copied_any _ (X.drop 1) (HS.out _ (by exact HX.out.2.2.1) (by exact hb)) (by have := HX.out.2.2.2; omega)).mono ?_; rintro e w5 ⟨r5, rfl, hr5, hb5⟩))
      have H5 : Hid (Row .u8 5 w.heap.size w5 r5 (X.drop 1) ∧ Below w.heap.size w w5) := ⟨hr5, (below_drewN 1 (Below.refl _ _)).trans hb5⟩
      clear hr5 hb5
      go_wp2
      go_ret3
      exact ⟨.inl ⟨HX.out.1, _, by rw [HX.out.2.1]; rfl, H5.out.1⟩, H5.out.2⟩
  · replace hk : bitsOk X = false := by simpa using hk
    rw [hk] at HC
    obtain ⟨a, n, c, rfl⟩ : ∃ a n c, v = .slice a n c := by obtain ⟨a, c, h, _⟩ := hX; exact ⟨a, _, c, h⟩
    have HX : Hid (bitsOk X = false) := hk
    clear hk hX uX
    go_enter Tryz.func76, Tryz.ntmps76
    go_wp2_with (go_at_call 97; refine (HC.out _ rfl).mono ?_; rintro e w' ⟨rfl, rfl⟩)
    go_ret3
    exact ⟨.inr ⟨HX.out, rfl⟩, Below.refl _ _⟩
end Go.Proofs.YtillkhjihggcjaaGreatDoor
/-
  Der: a few bits as a number.
-/
namespace Go.Proofs.YtillkhjihggcjaaGreatDoor
open Go.RowKit
theorem bits_or_comm (k : IntKind) (x y : Int) : bits .or k x y = bits .or k y x := by unfold bits; simp only []; rw [BitVec.or_comm]
theorem or_hi (s : Nat) (x y : Int) (hx0 : 0 ≤ x) (hx : x * 2 ^ s < 4294967296) (hy0 : 0 ≤ y) (hy : y < 2 ^ s) (hs : s ≤ 32) : bits .or .u32 (x * 2 ^ s) y = x * 2 ^ s + y := by
  obtain ⟨a, rfl⟩ := Int.eq_ofNat_of_zero_le hx0
  obtain ⟨b, rfl⟩ := Int.eq_ofNat_of_zero_le hy0
  have e : ((a * 2 ^ s : Nat) : Int) = (a : Int) * 2 ^ s := by simp
  have hb : b < 2 ^ s := by
    have : ((b : Nat) : Int) < ((2 ^ s : Nat) : Int) := by rw [Int.natCast_pow]; exact hy
    exact Int.ofNat_lt.1 this
  have ha : a * 2 ^ s < 2 ^ 32 := by
    have : ((a * 2 ^ s : Nat) : Int) < ((2 ^ 32 : Nat) : Int) := by rw [e]; exact hx
    exact Int.ofNat_lt.1 this
  have hb2 : b < 2 ^ 32 := Nat.lt_of_lt_of_le hb (Nat.pow_le_pow_right (by decide) hs)
  have h := (bits_nat .u32 32 (by decide) (fun n h₀ h₁ => by rw [IntKind.wrap_u32']; omega) (a * 2 ^ s) b ha hb2).2
  rw [e] at h
  rw [h, Nat.mul_comm a, ← Nat.two_pow_add_eq_or_of_lt hb a, Nat.mul_comm, Int.natCast_add, e]
/-- The number of bytes Y: each turned about, the first one lowest. -/
def flagN (Y : List Int) : Nat → Int
  | 0 => 0
  | i + 1 => flagN Y i + Lib.rev8 (Y.getD i 0) * 2 ^ (8 * i)
theorem rev8_u8 (x : Int) : 0 ≤ Lib.rev8 x ∧ Lib.rev8 x < 256 := by
  unfold Lib.rev8
  have := ((Lib.rev8tab[x.toNat]?).getD 0).toNat_lt
  omega
theorem flagN_lt (Y : List Int) : ∀ i, 0 ≤ flagN Y i ∧ flagN Y i < 2 ^ (8 * i)
  | 0 => by simp [flagN]
  | i + 1 => by
    have h1 := flagN_lt Y i
    have h2 := rev8_u8 (Y.getD i 0)
    have e : (2 : Int) ^ (8 * (i + 1)) = 256 * 2 ^ (8 * i) := by rw [show 8 * (i + 1) = 8 + 8 * i by omega, Int.pow_add]; rfl
    show 0 ≤ flagN Y i + Lib.rev8 (Y.getD i 0) * 2 ^ (8 * i) ∧ flagN Y i + Lib.rev8 (Y.getD i 0) * 2 ^ (8 * i) < _
    rw [e]
    generalize Lib.rev8 (Y.getD i 0) = r at *
    have hp : (0 : Int) < 2 ^ (8 * i) := Int.pow_pos (by decide)
    generalize (2 : Int) ^ (8 * i) = p at *
    have h3 : 0 ≤ r * p := Int.mul_nonneg h2.1 (by omega)
    have h4 : r * p ≤ 255 * p := Int.mul_le_mul_of_nonneg_right (by omega) (by omega)
    omega
def FlagsVal (X : List Int) : Int := if bitsOk X = true ∧ X.length ≤ 5 then flagN (X.drop 1) (X.length - 1) else 0
def FlagsErr (X : List Int) : Int := if bitsOk X = true then (if X.length ≤ 5 then 0 else 3) else 6
end Go.Proofs.YtillkhjihggcjaaGreatDoor
/-
  Der: the page's examples, all.
-/
namespace Go.Proofs.YtillkhjihggcjaaGreatDoor
open Go.RowKit
theorem flags_ex : FlagsVal [5, 160] = 5 ∧ FlagsErr [5, 160] = 0 := by decide +kernel
theorem ex_u8 : U8s [5, 160] := by intro x hx; unfold U8; simp at hx; omega
end Go.Proofs.YtillkhjihggcjaaGreatDoor
/-
  Der: which heads may be.
-/
namespace Go.Proofs.YtillkhjihggcjaaGreatDoor
open Go.RowKit
def headOk (class_ tag : Int) : Bool := decide (0 ≤ class_ ∧ class_ ≤ 3 ∧ 0 ≤ tag ∧ tag ≤ 268435455 ∧ ¬ (class_ = 0 ∧ tag = 0))
set_option maxHeartbeats 2000000 in
theorem isHead_any {w : World} (c t : Int) : Calls Tryz.prog 133 #[.int .i64 c, .int .i64 t] w fun e w' => e = .returned (.bool (headOk c t)) ∧ w = w' := by
  have HH : Hid (headOk c t = decide (0 ≤ c ∧ c ≤ 3 ∧ 0 ≤ t ∧ t ≤ 268435455 ∧ ¬ (c = 0 ∧ t = 0))) := rfl
  obtain ⟨r, hr⟩ : ∃ r, headOk c t = r := ⟨_, rfl⟩
  rw [hr] at HH ⊢
  clear hr
  by_cases h1 : c < 0
  · have HF : Hid (r = false) := by show _ = _; rw [HH.out]; simp; omega
    go_enter Tryz.func133, Tryz.ntmps133
    go_wp2
    go_ret
    exact ⟨by rw [HF.out]; rfl, rfl⟩
  by_cases h2 : 3 < c
  · have HF : Hid (r = false) := by show _ = _; rw [HH.out]; simp; omega
    go_enter Tryz.func133, Tryz.ntmps133
    go_wp2
    go_ret
    exact ⟨by rw [HF.out]; rfl, rfl⟩
  by_cases h3 : t < 0
  · have HF : Hid (r = false) := by show _ = _; rw [HH.out]; simp; omega
    go_enter Tryz.func133, Tryz.ntmps133
    go_wp2
    go_ret
    exact ⟨by rw [HF.out]; rfl, rfl⟩
  by_cases h4 : 268435455 < t
  · have HF : Hid (r = false) := by show _ = _; rw [HH.out]; simp; omega
    go_enter Tryz.func133, Tryz.ntmps133
    go_wp2
    go_ret
    exact ⟨by rw [HF.out]; rfl, rfl⟩
  by_cases h5 : c = 0
  · subst h5
    by_cases h6 : t = 0
    · subst h6
      have HF : Hid (r = false) := by show _ = _; rw [HH.out]; simp
      go_enter Tryz.func133, Tryz.ntmps133
      go_wp2
      go_ret
      exact ⟨by rw [HF.out]; rfl, rfl⟩
    · have HF : Hid (r = true) := by show _ = _; rw [HH.out]; simp; omega
      have h6b : (t != 0) = true := by simpa using h6
      go_enter Tryz.func133, Tryz.ntmps133
      go_wp2
      go_ret
      exact ⟨by rw [HF.out]; rfl, rfl⟩
  · have HF : Hid (r = true) := by show _ = _; rw [HH.out]; simp; omega
    have h5b : (c != 0) = true := by simpa using h5
    go_enter Tryz.func133, Tryz.ntmps133
    go_wp2
    go_ret
    exact ⟨by rw [HF.out]; rfl, rfl⟩
end Go.Proofs.YtillkhjihggcjaaGreatDoor
/-
  Der: what reading a row of elements tells, over lists of bytes; no Go text in sight.
-/
namespace Go.Proofs.YtillkhjihggcjaaGreatDoor
open Go.RowKit
/-- A fault and its place, or a number and where what comes behind it begins. -/
abbrev Rs := (Int × Nat) ⊕ (Int × Nat)
def Rs.v : Rs → Int
  | .inl (_, _) => 0
  | .inr (v, _) => v
def Rs.e : Rs → Int
  | .inl (e, _) => e
  | .inr (_, _) => 0
def Rs.at : Rs → Nat
  | .inl (_, a) => a
  | .inr (_, i) => i
/-- A long tag from place i on, t being what was read of it. -/
def lngF (M : List Int) : Nat → Nat → Int → Rs
  | 0, _, _ => .inl (2, M.length)
  | f + 1, i, t =>
    if t * 128 + M.getD i 0 % 128 = 0 ∨ 268435455 < t * 128 + M.getD i 0 % 128 ∨ (M.getD i 0 < 128 ∧ t * 128 + M.getD i 0 % 128 < 31) then .inl (30, i)
    else if M.getD i 0 < 128 then .inr ((t * 128 + M.getD i 0 % 128), (i + 1))
    else lngF M f (i + 1) (t * 128 + M.getD i 0 % 128)
def lng (M : List Int) (i : Nat) (t : Int) : Rs := lngF M (M.length - i) i t
theorem lng_end {M : List Int} {i : Nat} {t : Int} (h : M.length ≤ i) : lng M i t = .inl (2, M.length) := by
  unfold lng; rw [show M.length - i = 0 by omega]; rfl
theorem lng_step {M : List Int} {i : Nat} {t x t' : Int} (h : i < M.length) (hx : M.getD i 0 = x) (ht : t * 128 + x % 128 = t') :
    lng M i t = if t' = 0 ∨ 268435455 < t' ∨ (x < 128 ∧ t' < 31) then .inl (30, i) else if x < 128 then .inr (t', (i + 1)) else lng M (i + 1) t' := by
  unfold lng; rw [show M.length - i = (M.length - (i + 1)) + 1 by omega, lngF, hx, ht]
/-- The number of k bytes from place i on; of a great one only that it is. -/
def fold8 (M : List Int) (i : Nat) : Nat → Int
  | 0 => 0
  | k + 1 => min (fold8 M i k * 256 + M.getD (i + k) 0) 16777217
theorem fold8_bd {M : List Int} (hM : U8s M) (i : Nat) : ∀ k, 0 ≤ fold8 M i k ∧ fold8 M i k ≤ 16777217
  | 0 => by simp [fold8]
  | k + 1 => by
    have := fold8_bd hM i k
    have h8 := hM.at (i + k)
    unfold U8 at h8
    show 0 ≤ min (fold8 M i k * 256 + M.getD (i + k) 0) 16777217 ∧ min (fold8 M i k * 256 + M.getD (i + k) 0) 16777217 ≤ 16777217
    omega
def lenS (M : List Int) (i : Nat) : Rs :=
  if M.length ≤ i then .inl (2, M.length)
  else if M.getD i 0 = 128 ∨ M.getD i 0 = 255 then .inl (31, i)
  else if M.getD i 0 < 128 then (if (M.length : Int) < i + 1 + M.getD i 0 then .inl (31, i) else .inr ((M.getD i 0), (i + 1)))
  else if M.length < i + 1 + (M.getD i 0 - 128).toNat then .inl (2, M.length)
  else if fold8 M (i + 1) (M.getD i 0 - 128).toNat < 128 ∨ M.getD (i + 1) 0 = 0 then .inl (31, i)
  else if (M.length : Int) - (i + 1 + (M.getD i 0 - 128).toNat : Nat) < fold8 M (i + 1) (M.getD i 0 - 128).toNat then .inl (31, i)
  else .inr ((fold8 M (i + 1) (M.getD i 0 - 128).toNat), (i + 1 + (M.getD i 0 - 128).toNat))
def tagS (M : List Int) (p : Nat) : Rs :=
  if M.getD p 0 % 32 = 31 then lng M (p + 1) 0
  else if M.getD p 0 % 32 = 0 ∧ M.getD p 0 < 64 then .inl (30, p)
  else .inr ((M.getD p 0 % 32), (p + 1))
abbrev Es := (Int × Nat) ⊕ (Int × Nat × Nat)
def elemS (M : List Int) (p : Nat) : Es :=
  match tagS M p with
  | .inl (e, a) => .inl (e, a)
  | .inr (t, i) => match lenS M i with
    | .inl (e, a) => .inl (e, a)
    | .inr (l, j) => .inr (t, j, (j + l.toNat))
/-- An element: class, tag, made of others or not, its data, all its bytes. -/
structure El where
  cl : Int
  tg : Int
  co : Bool
  d : List Int
  r : List Int
def elAt (M : List Int) (p : Nat) (t : Int) (j E : Nat) : El := ⟨M.getD p 0 / 64, t, decide (M.getD p 0 / 32 % 2 = 1), (M.drop j).take (E - j), (M.drop p).take (E - p)⟩
theorem lng_ok {M : List Int} : ∀ f i t, M.length - i = f → ∀ v j, lng M i t = .inr (v, j) → i < j ∧ j ≤ M.length ∧ 31 ≤ v ∧ v ≤ 268435455
  | 0, i, t, hf, v, j, h => by rw [lng_end (by omega)] at h; cases h
  | f + 1, i, t, hf, v, j, h => by
    rw [lng_step (by omega) rfl rfl] at h
    split at h
    · cases h
    · rename_i h1
      split at h
      · cases h; omega
      · have := lng_ok f (i + 1) _ (by omega) v j h; omega
theorem lng_bad {M : List Int} : ∀ f i t, M.length - i = f → i ≤ M.length → ∀ e a, lng M i t = .inl (e, a) → i ≤ a ∧ a ≤ M.length ∧ (e = 2 ∨ e = 30)
  | 0, i, t, hf, hi, e, a, h => by rw [lng_end (by omega)] at h; cases h; omega
  | f + 1, i, t, hf, hi, e, a, h => by
    rw [lng_step (by omega) rfl rfl] at h
    split at h
    · cases h; omega
    · split at h
      · cases h
      · have := lng_bad f (i + 1) _ (by omega) (by omega) e a h; omega
theorem lenS_ok {M : List Int} (hM : U8s M) {i : Nat} {v : Int} {j : Nat} (h : lenS M i = .inr (v, j)) : i < j ∧ 0 ≤ v ∧ j + v ≤ M.length ∧ v ≤ 16777216 + 1 := by
  have hx := hM.at i
  unfold U8 at hx
  have hf := fold8_bd hM (i + 1) (M.getD i 0 - 128).toNat
  unfold lenS at h
  split at h
  · cases h
  split at h
  · cases h
  split at h
  · split at h
    · cases h
    · cases h; omega
  split at h
  · cases h
  split at h
  · cases h
  split at h
  · cases h
  · cases h; omega
theorem lenS_bad {M : List Int} {i : Nat} {e : Int} {a : Nat} (hi : i ≤ M.length) (h : lenS M i = .inl (e, a)) : i ≤ a ∧ a ≤ M.length ∧ (e = 2 ∨ e = 31) := by
  unfold lenS at h
  split at h
  · cases h; omega
  split at h
  · cases h; omega
  split at h
  · split at h
    · cases h; omega
    · cases h
  split at h
  · cases h; omega
  split at h
  · cases h; omega
  split at h
  · cases h; omega
  · cases h
theorem tagS_ok {M : List Int} (hM : U8s M) {p : Nat} (hp : p < M.length) {v : Int} {j : Nat} (h : tagS M p = .inr (v, j)) : p < j ∧ j ≤ M.length ∧ 0 ≤ v ∧ v ≤ 268435455 := by
  have hx := hM.at p
  unfold U8 at hx
  unfold tagS at h
  split at h
  · have := lng_ok _ _ _ rfl v j h; omega
  split at h
  · cases h
  · cases h; omega
theorem tagS_bad {M : List Int} {p : Nat} (hp : p < M.length) {e : Int} {a : Nat} (h : tagS M p = .inl (e, a)) : p ≤ a ∧ a ≤ M.length ∧ (e = 2 ∨ e = 30) := by
  unfold tagS at h
  split at h
  · have := lng_bad _ _ _ rfl (by omega) e a h; omega
  split at h
  · cases h; omega
  · cases h
theorem elemS_ok {M : List Int} (hM : U8s M) {p : Nat} (hp : p < M.length) {t : Int} {j E : Nat} (h : elemS M p = .inr (t, j, E)) : p < j ∧ j ≤ E ∧ E ≤ M.length ∧ 0 ≤ t ∧ t ≤ 268435455 := by
  unfold elemS at h
  split at h
  · cases h
  · rename_i t' i ht
    have h1 := tagS_ok hM hp ht
    split at h
    · cases h
    · rename_i l j' hl
      have h2 := lenS_ok hM hl
      cases h; omega
theorem elemS_bad {M : List Int} (hM : U8s M) {p : Nat} (hp : p < M.length) {e : Int} {a : Nat} (h : elemS M p = .inl (e, a)) : p ≤ a ∧ a ≤ M.length ∧ (e = 2 ∨ e = 30 ∨ e = 31) := by
  unfold elemS at h
  split at h
  · rename_i e' a' ht
    have h1 := tagS_bad hp ht
    cases h; omega
  · rename_i t' i ht
    have h1 := tagS_ok hM hp ht
    split at h
    · rename_i e' a' hl
      have h2 := lenS_bad (by omega) hl
      cases h; omega
    · cases h
/-- A row of elements, or the first fault and its place. -/
abbrev Sp := (Int × Nat) ⊕ List El
def spF (M : List Int) : Nat → Nat → List El → Sp
  | 0, _, L => .inr L
  | f + 1, p, L =>
    if M.length ≤ p then .inr L
    else if 65536 ≤ L.length then .inl (4, p)
    else match elemS M p with
      | .inl (e, a) => .inl (e, a)
      | .inr (t, j, E) => spF M f E (L ++ [elAt M p t j E])
theorem spF_fuel {M : List Int} (hM : U8s M) : ∀ f g p L, M.length ≤ p + f → M.length ≤ p + g → spF M f p L = spF M g p L
  | 0, 0, _, _, _, _ => rfl
  | 0, g + 1, p, L, h, _ => by rw [spF, spF, if_pos (by omega)]
  | f + 1, 0, p, L, _, h => by rw [spF, spF, if_pos (by omega)]
  | f + 1, g + 1, p, L, h, h' => by
    rw [spF, spF]
    by_cases h1 : M.length ≤ p
    · rw [if_pos h1, if_pos h1]
    rw [if_neg h1, if_neg h1]
    split
    · rfl
    split
    · rfl
    · rename_i t j E he
      have h2 := elemS_ok hM (by omega) he
      exact spF_fuel hM f g E _ (by omega) (by omega)
def spl (M : List Int) (p : Nat) (L : List El) : Sp := spF M (M.length - p) p L
def splitS (M : List Int) : Sp := if 16777216 < M.length then .inl (3, 0) else spl M 0 []
theorem spl_end {M : List Int} {p : Nat} {L : List El} (h : M.length ≤ p) : spl M p L = .inr L := by
  unfold spl; rw [show M.length - p = 0 by omega, spF]
theorem spl_many {M : List Int} {p : Nat} {L : List El} (h : p < M.length) (hL : 65536 ≤ L.length) : spl M p L = .inl (4, p) := by
  unfold spl; rw [show M.length - p = (M.length - p - 1) + 1 by omega, spF, if_neg (by omega), if_pos hL]
theorem spl_bad {M : List Int} {p : Nat} {L : List El} (h : p < M.length) (hL : L.length < 65536) {e : Int} {a : Nat} (he : elemS M p = .inl (e, a)) : spl M p L = .inl (e, a) := by
  unfold spl; rw [show M.length - p = (M.length - p - 1) + 1 by omega, spF, if_neg (by omega), if_neg (by omega), he]
theorem spl_ok {M : List Int} (hM : U8s M) {p : Nat} {L : List El} (h : p < M.length) (hL : L.length < 65536) {t : Int} {j E : Nat} (he : elemS M p = .inr (t, j, E)) : spl M p L = spl M E (L ++ [elAt M p t j E]) := by
  have h2 := elemS_ok hM h he
  unfold spl; rw [show M.length - p = (M.length - p - 1) + 1 by omega, spF, if_neg (by omega), if_neg (by omega), he]
  exact spF_fuel hM _ _ _ _ (by omega) (by omega)
/-- What a few bytes of a length tell, read from place i on. -/
def lenL (M : List Int) (i k : Nat) : Rs := if M.length < i + k then .inl (2, M.length) else .inr ((fold8 M i k), (i + k))
theorem fold8_at {M : List Int} (i k : Nat) {x : Int} (hx : M.getD (i + k) 0 = x) : fold8 M i (k + 1) = min (fold8 M i k * 256 + x) 16777217 := by
  rw [← hx]; rfl
end Go.Proofs.YtillkhjihggcjaaGreatDoor
/-
  Der: the reader: the end, a fault, a long tag.
-/
namespace Go.Proofs.YtillkhjihggcjaaGreatDoor
open Go.RowKit
def posOf : Option Value → Nat
  | some v => (intOf v).toNat
  | none => 0
theorem Rdr.pos {w : World} {g b off n c p : Nat} (h : Rdr w g b off n c p) : posOf (w.cell? ⟨g, 1, none⟩) = p := by
  have c1 : w.cell? ⟨g, 1, none⟩ = some (.int .i64 p) := h.cell 1
  rw [c1]; simp [posOf, intOf]
theorem or_i64 (s : Nat) (x y : Int) (hx0 : 0 ≤ x) (hx : x * 2 ^ s < 9223372036854775808) (hy0 : 0 ≤ y) (hy : y < 2 ^ s) (hs : s ≤ 32) : bits .or .i64 (x * 2 ^ s) y = x * 2 ^ s + y := by
  obtain ⟨a, rfl⟩ := Int.eq_ofNat_of_zero_le hx0
  obtain ⟨b, rfl⟩ := Int.eq_ofNat_of_zero_le hy0
  have e : ((a * 2 ^ s : Nat) : Int) = (a : Int) * 2 ^ s := by simp
  have hb : b < 2 ^ s := by
    have : ((b : Nat) : Int) < ((2 ^ s : Nat) : Int) := by rw [Int.natCast_pow]; exact hy
    exact Int.ofNat_lt.1 this
  have ha : a * 2 ^ s < 2 ^ 63 := by
    have : ((a * 2 ^ s : Nat) : Int) < ((2 ^ 63 : Nat) : Int) := by rw [e]; exact hx
    exact Int.ofNat_lt.1 this
  have hb2 : b < 2 ^ 63 := Nat.lt_of_lt_of_le hb (Nat.pow_le_pow_right (by decide) (by omega))
  have h := (bits_nat .i64 63 (by decide) (fun n h₀ h₁ => by rw [IntKind.wrap_i64]; omega) (a * 2 ^ s) b ha hb2).2
  rw [e] at h
  rw [h, Nat.mul_comm a, ← Nat.two_pow_add_eq_or_of_lt hb a, Nat.mul_comm, Int.natCast_add, e]
set_option maxHeartbeats 1000000 in
theorem next_end {w : World} (g b off n c : Nat) (hR : Rdr w g b off n c n) :
    Calls Tryz.prog 131 #[.pointer (some ⟨g, 0, none⟩)] w fun e w' => e = .returned (.tuple #[.int .u8 0, .int .i64 2]) ∧ Upd w w' g ∧ Rdr w' g b off n c n := by
  have c0 : w.cell? ⟨g, 0, none⟩ = some (.slice (some ⟨b, off, none⟩) n c) := hR.cell 0
  have c1 : w.cell? ⟨g, 1, none⟩ = some (.int .i64 n) := hR.cell 1
  have HR : Hid (Rdr w g b off n c n) := hR
  clear hR
  go_enter Tryz.func131, Tryz.ntmps131
  go_upto_region 1 with (fail)
  go_quiet (fail)
  go_wp2
  go_ret2
  exact ⟨rfl, ⟨rfl, rfl, rfl, Nat.le_refl _, fun _ _ _ => rfl⟩, HR.out.drewN _⟩
set_option maxHeartbeats 1000000 in
theorem fault_any {w : World} (g b off n c p a : Nat) (x : Int) (hR : Rdr w g b off n c p) :
    Calls Tryz.prog 134 #[.pointer (some ⟨g, 0, none⟩), .int .i64 x, .int .i64 a] w fun e w' => e = .returned (.int .i64 x) ∧ Upd w w' g ∧ Rdr w' g b off n c a := by
  have c1 : w.cell? ⟨g, 1, none⟩ = some (.int .i64 p) := hR.cell 1
  have f1 := hR.frozen 1
  have HR : Hid (Rdr w g b off n c p) := hR
  clear hR
  go_enter Tryz.func134, Tryz.ntmps134
  go_wp2
  go_ret
  exact ⟨rfl, Upd.set _ _ _ _, HR.out.set 1 (.int .i64 a)⟩
set_option maxRecDepth 20000 in
set_option maxHeartbeats 4000000 in
theorem longTag_any {w : World} (g b off n c p : Nat) (M : List Int) (hR : Rdr w g b off n c p) (hM : Rd .u8 w b off M) (uM : U8s M) (hMl : M.length = n) (hn : n ≤ 16777216) (hb : b < w.heap.size) (hbg : b ≠ g) (hp : p ≤ n) :
    Calls Tryz.prog 132 #[.pointer (some ⟨g, 0, none⟩)] w fun e w' => e = .returned (.tuple #[.int .i64 (lng M p 0).v, .int .i64 (lng M p 0).e]) ∧ Upd w w' g ∧ Rdr w' g b off n c (lng M p 0).at := by
  have HX : Hid (Rdr w g b off n c p ∧ Rd .u8 w b off M ∧ U8s M ∧ M.length = n) := ⟨hR, hM, uM, hMl⟩
  obtain ⟨O, hO⟩ : ∃ O, lng M p 0 = O := ⟨_, rfl⟩
  have HO : Hid (lng M p 0 = O) := hO
  rw [hO]
  clear hR hM uM hMl hO
  go_enter Tryz.func132, Tryz.ntmps132
  go_wp2_with fail
  go_loopw [4] (fun tv wr => ∃ (i : Nat) (t : Int), tv = .int .i64 t ∧ i ≤ n ∧ 0 ≤ t ∧ t ≤ 268435455 ∧ Rdr wr g b off n c i ∧ Upd w wr g ∧ lng M i t = O) (fun _ wr => n - posOf (wr.cell? ⟨g, 1, none⟩))
  case atStart => exact ⟨p, 0, rfl, hp, by decide, by decide, HX.out.1, Upd.refl _ _, HO.out⟩
  case round =>
    obtain ⟨i, t, rfl, hi, t0, t1, hr, hu, hl⟩ := hrel
    have H1 : Hid (Rdr wr g b off n c i ∧ Upd w wr g ∧ lng M i t = O) := ⟨hr, hu, hl⟩
    clear hr hu hl
    by_cases hlt : i < n
    · obtain ⟨x, hx⟩ : ∃ x, M.getD i 0 = x := ⟨_, rfl⟩
      have hxu := HX.out.2.2.1.at i
      rw [hx] at hxu
      have HU : Hid (U8 x) := hxu
      obtain ⟨t', ht'⟩ : ∃ t', t * 128 + x % 128 = t' := ⟨_, rfl⟩
      have HS : Hid (O = if t' = 0 ∨ 268435455 < t' ∨ (x < 128 ∧ t' < 31) then .inl (30, i) else if x < 128 then .inr (t', (i + 1)) else lng M (i + 1) t') := by
        show _ = _
        rw [← H1.out.2.2]
        exact lng_step (by have := HX.out.2.2.2; omega) hx ht'
      have e1 := and_127 x hxu
      have e2 := or_i64 7 t (x % 128) t0 (by omega) (by omega) (by omega) (by decide)
      rw [show t * 2 ^ 7 = t * 128 from rfl, ht'] at e2
      have x0 : 0 ≤ x % 128 := by omega
      have x1 : x % 128 ≤ 127 := by omega
      obtain ⟨y, hy⟩ : ∃ y, x % 128 = y := ⟨_, rfl⟩
      rw [hy] at e1 e2 x0 x1
      have HT : Hid (0 ≤ t' ∧ t * 128 + y = t' ∧ t' ≤ 34359738367) := ⟨by omega, by omega, by omega⟩
      clear hxu ht' hy
      go_wp2_with fail
      refine (next_any g b off n c i x H1.out.1 hlt hn ?_).mono ?_
      · rw [H1.out.2.1.rd hb HX.out.2.1 hbg i (by have := HX.out.2.2.2; omega), hx]
      rintro e w1 ⟨rfl, hu, hr⟩
      obtain ⟨i1, hi1⟩ : ∃ i1, i + 1 = i1 := ⟨_, rfl⟩
      rw [hi1] at hr
      have H2 : Hid (Rdr w1 g b off n c i1 ∧ Upd w w1 g ∧ i + 1 = i1) := ⟨hr, H1.out.2.1.trans hu, hi1⟩
      have d1 : w1.cell? ⟨g, 1, none⟩ = some (.int .i64 (i1 : Int)) := hr.cell 1
      have d2 : (i1 : Int) - 1 = (i : Int) := by omega
      have d3 : i1 ≤ n := by omega
      clear hu hr hx hi1
      have bad : Hid (t' = 0 ∨ 268435455 < t' ∨ (x < 128 ∧ t' < 31) → O = .inl (30, i)) := by
        intro h; rw [HS.out, if_pos h]
      have u0 := HU.out.1
      have u1 := HU.out.2
      by_cases q1 : t' = 0
      · subst q1
        go_wp2_with (go_at_call 134; refine (fault_any g b off n c i1 i 30 H2.out.1).mono ?_; rintro e w2 ⟨rfl, hu2, hr2⟩)
        go_ret2
        rw [bad.out (.inl (by simp))]
        exact ⟨rfl, H2.out.2.1.trans hu2, hr2⟩
      have q1b : (t' == 0) = false := by simpa using q1
      by_cases q2 : 268435455 < t'
      · go_wp2_with (go_at_call 134; refine (fault_any g b off n c i1 i 30 H2.out.1).mono ?_; rintro e w2 ⟨rfl, hu2, hr2⟩)
        go_ret2
        rw [bad.out (.inr (.inl q2))]
        exact ⟨rfl, H2.out.2.1.trans hu2, hr2⟩
      by_cases q3 : x < 128
      · by_cases q4 : t' < 31
        · go_wp2_with (go_at_call 134; refine (fault_any g b off n c i1 i 30 H2.out.1).mono ?_; rintro e w2 ⟨rfl, hu2, hr2⟩)
          go_ret2
          rw [bad.out (.inr (.inr ⟨q3, q4⟩))]
          exact ⟨rfl, H2.out.2.1.trans hu2, hr2⟩
        · go_wp2
          go_ret2
          have h1 := HS.out
          rw [if_neg (by omega), if_pos q3, H2.out.2.2] at h1
          subst h1
          exact ⟨rfl, H2.out.2.1, H2.out.1⟩
      · go_wp2
        go_roundw
        case rel =>
          refine ⟨i1, t', rfl, d3, HT.out.1, by omega, H2.out.1, H2.out.2.1, ?_⟩
          have h1 := HS.out
          rw [if_neg (by omega), if_neg (by omega), H2.out.2.2] at h1
          exact h1.symm
        case measure => rw [H2.out.1.pos, H1.out.1.pos]; have := H2.out.2.2; omega
    · obtain rfl : i = n := by omega
      go_wp2_with fail
      refine (next_end g b off i c H1.out.1).mono ?_
      rintro e w1 ⟨rfl, hu, hr⟩
      have H2 : Hid (Rdr w1 g b off i c i ∧ Upd w w1 g) := ⟨hr, H1.out.2.1.trans hu⟩
      clear hu hr
      go_wp2
      go_ret2
      have := H1.out.2.2
      rw [lng_end (by have := HX.out.2.2.2; omega)] at this
      subst this
      refine ⟨rfl, H2.out.2, ?_⟩
      have := H2.out.1
      rw [← HX.out.2.2.2] at this ⊢
      exact this
end Go.Proofs.YtillkhjihggcjaaGreatDoor
