/-
  Der: the page's example of an object identifier.
-/
import Derived.Lib.OthersKept
import Derived.Laws.RangeString
import Derived.Lib.Tables
import Derived.Deep.RegionHeld3
import Derived.Test.YtndoibmpnhkmpaaGreatDoorK2
namespace Go.Proofs.YtndoibmpnhkmpaaGreatDoor
open Go.RowKit
theorem Max_live {w : World} (b c : Nat) (x y : Int) (hxy : x < y) (h0 : w.cell? ⟨b, 0, none⟩ = some (.int .u64 x)) (h1 : w.cell? ⟨b, 1, none⟩ = some (.int .u64 y)) :
    Calls Tryz.prog 119 #[.slice (some ⟨b, 0, none⟩) 2 c] w fun e w' => e = .returned (.int .u64 y) ∧ w = w' := by
  have hm : max x y = y := by omega
  go_enter Tryz.func119, Tryz.ntmps119
  go_wp2_with fail
  refine wp_loop_rounds 2 ?_
  rw [rounds_succ]
  go_wp2_with fail
  rw [rounds_succ]
  go_wp2
  go_ret
  exact ⟨rfl, rfl⟩
theorem row_str {w : World} {B : Nat} {v : Value} {xs : List Int} {n : Nat} (h : Row .u8 5 B w v xs) (hn : xs.length = n) (h0 : 0 < n) : ∃ b c, v = .slice (some ⟨b, 0, none⟩) n c ∧ Sem.run Tryz.prog (convert 25 9 (.slice (some ⟨b, 0, none⟩) n c)) w = .ok (.string (strOfNums xs)) w := by
  obtain ⟨b, S, rfl, _, hA, hl, ht, _⟩ := h.open n hn h0
  refine ⟨b, _, rfl, run_convert_bytes_arg w _ _ Tryz.und8 Tryz.e8 b 0 n _ xs hn (fun i hi => ?_) _ Tryz.str⟩
  have e : S.getD i 0 = xs.getD i 0 := by
    rw [List.getD_eq_getElem?_getD, List.getD_eq_getElem?_getD, ← ht, List.getElem?_take, if_pos hi]
  rw [Nat.zero_add, hA.cell i (by omega), e]
end Go.Proofs.YtndoibmpnhkmpaaGreatDoor
/-
  Der: the page's example of an object identifier laid.
-/
namespace Go.Proofs.YtndoibmpnhkmpaaGreatDoor
open Go.RowKit
theorem or_136 : bits .or .u8 8 128 = 136 := by decide +kernel
theorem and_55 : bits .and .u64 1079 127 = 55 := by decide +kernel
set_option maxRecDepth 20000 in
set_option maxHeartbeats 2000000 in
theorem sevens_live {w : World} : Calls Tryz.prog 120 #[.slice none 0 0, .int .u64 1079] w fun e w' => ∃ r, e = .returned r ∧ Row .u8 5 w.heap.size w' r [136, 55] ∧ Below w.heap.size w w' := by
  have o1 := or_136
  have a1 := and_55
  go_enter Tryz.func120, Tryz.ntmps120
  go_wp2_with fail
  refine wp_loop_rounds 2 ?_
  rw [rounds_succ]
  go_wp2_with fail
  rw [rounds_succ]
  go_wp2_with fail
  refine wp_loop_rounds 2 ?_
  rw [rounds_succ]
  go_wp2_with (at_builtin; refine wpList_ap rfl (.tmp 16) (.tmp 22) 25 25 rfl .u8 5 1 Tryz.und8 Tryz.info8 (by decide) w.heap.size _ [] rfl (Row.nil _ _ _ _) _ [136] rfl (src_sl Tryz.und8 (new1 136)) (by decide) (by simp) ?_; intro v1 w1 hr hg)
  have hb1 : Below w.heap.size w w1 := (al1 _).trans (hg.below (Row.nil _ _ w.heap.size _) (by simp))
  have H1 : Hid (Row .u8 5 w.heap.size w1 v1 [136] ∧ Below w.heap.size w w1) := ⟨hr, hb1⟩
  clear hr hg hb1
  rw [rounds_succ]
  go_wp2_with (at_builtin; refine wpList_ap rfl (.tmp 24) (.tmp 28) 25 25 rfl .u8 5 1 Tryz.und8 Tryz.info8 (by decide) w.heap.size _ [136] rfl (H1.out.1.alloc _) _ [55] rfl (src_sl Tryz.und8 (new1 55)) (by decide) (by have := H1.out.2.size; simp; omega) ?_; intro v2 w2 hr hg)
  have hb2 : Below w.heap.size w w2 := (H1.out.2.alloc H1.out.2.size _).trans (hg.below (H1.out.1.alloc _) (by have := H1.out.2.size; simp; omega))
  go_ret
  exact ⟨_, rfl, hr, hb2⟩
abbrev exS : ByteArray := ⟨#[50, 46, 57, 57, 57]⟩
def It (w W : World) (pos : Nat) : Prop := W.heap[w.heap.size]? = some (.stringIter exS pos) ∧ Below w.heap.size w W
theorem It.step {w W : World} {pos : Nat} (h : It w W pos) (pos' : Nat) : It w (W.iterAt w.heap.size exS pos') pos' := ⟨Lib.iterAt_heap W _ exS pos pos' h.1, Lib.below_iterAt h.2 (Nat.le_refl _) _ _⟩
theorem It.below {w W W' : World} {pos : Nat} (h : It w W pos) (hb : Below (w.heap.size + 1) W W') : It w W' pos := ⟨by rw [hb.block _ (by omega)]; exact h.1, h.2.trans (hb.mono (by omega))⟩
theorem It.lt {w W : World} {pos : Nat} (h : It w W pos) : w.heap.size < W.heap.size := (Array.getElem?_eq_some_iff.1 h.1).1
theorem row_iter {k : IntKind} {e : TypeId} {w W : World} {v : Value} {xs : List Int} (pos : Nat) (h : Row k e (w.heap.size + 1) W v xs) : Row k e (w.heap.size + 1) (W.iterAt w.heap.size exS pos) v xs := by
  rcases h with h | ⟨b, S, rfl, h1, hA, h2⟩
  · exact .inl h
  · exact .inr ⟨b, S, rfl, h1, by unfold Arr; rw [Lib.iterAt_other W _ _ exS pos (by omega)]; exact hA, h2⟩
set_option maxRecDepth 20000 in
set_option maxHeartbeats 4000000 in
theorem written_live {w : World} : Calls Tryz.prog 118 #[.string exS] w fun e w' => ∃ r, e = .returned (.tuple #[r, .bool true]) ∧ Row .u64 79 (w.heap.size + 1) w' r [2, 999] ∧ Below w.heap.size w w' := by
  go_enter Tryz.func118, Tryz.ntmps118
  go_wp2_with fail
  refine wp_loop_rounds 6 ?_
  rw [rounds_succ]
  refine wp_gen (fun W => It w W 0) ⟨by rw [World.iter_heap], al1 _⟩ ?_
  intro v0 h0
  have H0 : Hid (It w v0 0 ∧ True) := ⟨h0, trivial⟩
  clear h0
  have hn : Sem.run Tryz.prog (Instr.next (.pointer (some ⟨w.heap.size, 0, none⟩)) true 0) v0 = .ok (.tuple #[.bool true, .int .i64 0, .int .i32 50]) (v0.iterAt w.heap.size exS 1) := Lib.run_next_ascii_at v0 w.heap.size exS 0 0 H0.out.1.1 (by decide) (by decide)
  go_wp2_with fail
  rw [rounds_succ]
  refine wp_gen (fun W => It w W 1) (H0.out.1.step 1) ?_
  clear hn
  intro v1 h1
  have H1 : Hid (It w v1 1 ∧ True) := ⟨h1, trivial⟩
  clear h1
  have hn : Sem.run Tryz.prog (Instr.next (.pointer (some ⟨w.heap.size, 0, none⟩)) true 0) v1 = .ok (.tuple #[.bool true, .int .i64 1, .int .i32 46]) (v1.iterAt w.heap.size exS 2) := Lib.run_next_ascii_at v1 w.heap.size exS 1 0 H1.out.1.1 (by decide) (by decide)
  go_wp2_with (at_builtin; refine wpList_ap rfl (.tmp 29) (.tmp 31) 88 88 rfl .u64 79 8 Tryz.und64 Tryz.info64 (by decide) (w.heap.size + 1) _ [] rfl (Row.nil _ _ _ _) _ [2] rfl (src_sl Tryz.und64 (new64 2)) (by decide) (by have := (H1.out.1.step 2).lt; simp; omega) ?_; intro u1 v2 hr hg)
  have hlt1 := (H1.out.1.step 2).lt
  have hb2 : Below (w.heap.size + 1) _ v2 := hg.below (Row.nil _ _ (w.heap.size + 1) _) (by simp; omega)
  obtain ⟨a1, c1, hv⟩ := hr.ne
  replace hv : u1 = .slice a1 1 c1 := hv
  subst hv
  have H2 : Hid (It w v2 2 ∧ Row .u64 79 (w.heap.size + 1) v2 (.slice a1 1 c1) [2]) := ⟨((H1.out.1.step 2).below ((Below.refl _ _).alloc hlt1 _)).below hb2, hr⟩
  clear hr hg hb2 hn
  rw [rounds_succ]
  have hn : Sem.run Tryz.prog (Instr.next (.pointer (some ⟨w.heap.size, 0, none⟩)) true 0) v2 = .ok (.tuple #[.bool true, .int .i64 2, .int .i32 57]) (v2.iterAt w.heap.size exS 3) := Lib.run_next_ascii_at v2 w.heap.size exS 2 0 H2.out.1.1 (by decide) (by decide)
  go_wp2_with fail
  rw [rounds_succ]
  refine wp_gen (fun W => It w W 3 ∧ Row .u64 79 (w.heap.size + 1) W (.slice a1 1 c1) [2]) ⟨H2.out.1.step 3, row_iter 3 H2.out.2⟩ ?_
  clear hn
  intro v3 h
  have H3 : Hid (It w v3 3 ∧ Row .u64 79 (w.heap.size + 1) v3 (.slice a1 1 c1) [2]) := h
  clear h
  have hn : Sem.run Tryz.prog (Instr.next (.pointer (some ⟨w.heap.size, 0, none⟩)) true 0) v3 = .ok (.tuple #[.bool true, .int .i64 3, .int .i32 57]) (v3.iterAt w.heap.size exS 4) := Lib.run_next_ascii_at v3 w.heap.size exS 3 0 H3.out.1.1 (by decide) (by decide)
  go_wp2_with fail
  rw [rounds_succ]
  refine wp_gen (fun W => It w W 4 ∧ Row .u64 79 (w.heap.size + 1) W (.slice a1 1 c1) [2]) ⟨H3.out.1.step 4, row_iter 4 H3.out.2⟩ ?_
  clear hn
  intro v4 h
  have H4 : Hid (It w v4 4 ∧ Row .u64 79 (w.heap.size + 1) v4 (.slice a1 1 c1) [2]) := h
  clear h
  have hn : Sem.run Tryz.prog (Instr.next (.pointer (some ⟨w.heap.size, 0, none⟩)) true 0) v4 = .ok (.tuple #[.bool true, .int .i64 4, .int .i32 57]) (v4.iterAt w.heap.size exS 5) := Lib.run_next_ascii_at v4 w.heap.size exS 4 0 H4.out.1.1 (by decide) (by decide)
  go_wp2_with fail
  rw [rounds_succ]
  refine wp_gen (fun W => It w W 5 ∧ Row .u64 79 (w.heap.size + 1) W (.slice a1 1 c1) [2]) ⟨H4.out.1.step 5, row_iter 5 H4.out.2⟩ ?_
  clear hn
  intro v5 h
  have H5 : Hid (It w v5 5 ∧ Row .u64 79 (w.heap.size + 1) v5 (.slice a1 1 c1) [2]) := h
  clear h
  have hn : Sem.run Tryz.prog (Instr.next (.pointer (some ⟨w.heap.size, 0, none⟩)) true 0) v5 = .ok (.tuple #[.bool false]) v5 := Lib.run_next_end_at v5 w.heap.size exS 5 0 H5.out.1.1 (by decide)
  go_wp2_with (at_builtin; refine wpList_ap rfl (.tmp 44) (.tmp 46) 88 88 rfl .u64 79 8 Tryz.und64 Tryz.info64 (by decide) (w.heap.size + 1) _ [2] rfl (H5.out.2.alloc _) _ [999] rfl (src_sl Tryz.und64 (new64 999)) (by decide) (by have := H5.out.1.lt; simp; omega) ?_; intro u6 v6 hr hg)
  have hlt5 := H5.out.1.lt
  have hb6 : Below w.heap.size w v6 := (H5.out.1.2.alloc H5.out.1.2.size _).trans ((hg.below (H5.out.2.alloc _) (by simp; omega)).mono (by omega))
  go_ret2
  exact ⟨_, rfl, hr, hb6⟩
set_option maxRecDepth 20000 in
set_option maxHeartbeats 4000000 in
theorem PutOid_live {w : World} : Calls Tryz.prog 97 #[.string exS] w fun e w' => ∃ r, e = .returned (.tuple #[r, .int .i64 0]) ∧ Row .u8 5 w.heap.size w' r [136, 55] ∧ Below w.heap.size w w' := by
  go_enter Tryz.func97, Tryz.ntmps97
  go_wp2_with fail
  refine (written_live (w := w)).mono ?_
  rintro e w1 ⟨r, rfl, hr, hb⟩
  obtain ⟨b1, S1, rfl, hB1, hA1, hl1, ht1, hm1⟩ := hr.open 2 rfl (by omega)
  obtain ⟨k1, hk1⟩ : ∃ k, S1.length = k := ⟨_, rfl⟩
  rw [hk1]
  have g0 : S1.getD 0 0 = 2 := by
    have : (S1.take 2).getD 0 0 = 2 := by rw [ht1]; rfl
    rwa [List.getD_eq_getElem?_getD, List.getElem?_take, if_pos (by omega), ← List.getD_eq_getElem?_getD] at this
  have g1 : S1.getD 1 0 = 999 := by
    have : (S1.take 2).getD 1 0 = 999 := by rw [ht1]; rfl
    rwa [List.getD_eq_getElem?_getD, List.getElem?_take, if_pos (by omega), ← List.getD_eq_getElem?_getD] at this
  have c0 : w1.cell? ⟨b1, 0, none⟩ = some (.int .u64 2) := by rw [hA1.cell 0 (by omega), g0]
  have c1 : w1.cell? ⟨b1, 1, none⟩ = some (.int .u64 999) := by rw [hA1.cell 1 (by omega), g1]
  have hk2 : 2 ≤ k1 := by omega
  have hk3 : (k1 : Int) ≤ 9223372036854775807 := by unfold maxLen at hm1; omega
  have H1 : Hid (Below w.heap.size w w1) := hb
  clear hr hb hA1 hB1 hl1 ht1 hm1 g0 g1 hk1
  go_wp2_with (go_at_call 119; refine (Max_live b1 k1 2 999 (by decide) c0 c1).mono ?_; rintro e w' ⟨rfl, rfl⟩)
  refine wp_region_qsd 8 (by kernel_rfl) (by kernel_rfl) ?_
  simp only [List.take_succ_cons, List.take_zero, List.drop_succ_cons, List.drop_zero]
  repeat (go_big_quiet_step (fail))
  refine wpQuiet_nil ?_
  rintro _ ⟨q2, rfl⟩
  go_wp2_with fail
  refine (sevens_live (w := w1.drewN q2)).mono ?_
  rintro e w2 ⟨r2, rfl, hr2, hb2⟩
  have H2 : Hid (Row .u8 5 w1.heap.size w2 r2 [136, 55] ∧ Below w1.heap.size w1 w2) := ⟨hr2, below_via (below_drewN q2 (Below.refl _ _)) hb2 (Nat.le_refl _)⟩
  clear hr2 hb2 c0 c1
  go_wp2_with fail
  all_goals refine wp_loop_rounds 1 ?_
  all_goals rw [rounds_succ]
  all_goals go_wp2
  all_goals go_ret2
  all_goals exact ⟨_, rfl, H2.out.1.mono H1.out.size, below_via H1.out H2.out.2 (Nat.le_refl _)⟩
end Go.Proofs.YtndoibmpnhkmpaaGreatDoor
/-
  Der: rows of bits.
-/
namespace Go.Proofs.YtndoibmpnhkmpaaGreatDoor
open Go.RowKit
/-- Are these bytes a row of bits? -/
def bitsOk (X : List Int) : Bool :=
  if X.length < 2 then decide (X.length = 1) && decide (X.getD 0 0 = 0) else decide (X.getD 0 0 ≤ 7) && decide (X.getD (X.length - 1) 0 % 2 ^ (X.getD 0 0).toNat = 0)
theorem and_1 (x : Int) (h : U8 x) : bits .and .u8 x 1 = x % 2 := by obtain ⟨h0, h1⟩ := h; go_bits2
theorem and_3 (x : Int) (h : U8 x) : bits .and .u8 x 3 = x % 4 := by obtain ⟨h0, h1⟩ := h; go_bits2
theorem and_7 (x : Int) (h : U8 x) : bits .and .u8 x 7 = x % 8 := by obtain ⟨h0, h1⟩ := h; go_bits2
theorem and_15 (x : Int) (h : U8 x) : bits .and .u8 x 15 = x % 16 := by obtain ⟨h0, h1⟩ := h; go_bits2
theorem and_31 (x : Int) (h : U8 x) : bits .and .u8 x 31 = x % 32 := by obtain ⟨h0, h1⟩ := h; go_bits2
theorem and_63 (x : Int) (h : U8 x) : bits .and .u8 x 63 = x % 64 := by obtain ⟨h0, h1⟩ := h; go_bits2
theorem and_127 (x : Int) (h : U8 x) : bits .and .u8 x 127 = x % 128 := by obtain ⟨h0, h1⟩ := h; go_bits2
theorem and_0 (x : Int) : bits .and .u8 x 0 = 0 := by unfold bits; simp; rfl
theorem wrapI (z : Int) (h0 : 0 ≤ z) (h1 : z < 9223372036854775808) : IntKind.i64.wrap z = z := by rw [IntKind.wrap_i64]; omega
/-- What Bits answers. -/
def BitsAns (B : Nat) (w : World) (X : List Int) (e : Ending) : Prop :=
  (bitsOk X = true ∧ ∃ r, e = .returned (.tuple #[r, .int .i64 (X.getD 0 0), .int .i64 0]) ∧ Row .u8 5 B w r (X.drop 1)) ∨ (bitsOk X = false ∧ e = .returned (.tuple #[.slice none 0 0, .int .i64 0, .int .i64 6]))
theorem bitsOk_pos {X : List Int} (h : bitsOk X = true) : 0 < X.length := by
  unfold bitsOk at h
  by_cases h0 : X.length = 0
  · rw [h0] at h; simp at h
  · omega
theorem sl_tail {w : World} {n c : Nat} {X : List Int} {b off : Nat} (hb : b < w.heap.size) (hr : Rd .u8 w b off X) (hn : X.length = n) (h0 : 0 < n) (hc : n ≤ c) : Sl .u8 w (.slice (if c = 1 then some ⟨b, off, none⟩ else some ⟨b, off + 1, none⟩) (n - 1) (c - 1)) (X.drop 1) := by
  have hl : (X.drop 1).length = n - 1 := by rw [List.length_drop, hn]
  refine ⟨_, _, by rw [hl], by omega, ?_⟩
  by_cases h : c = 1
  · exact .inl (List.eq_nil_of_length_eq_zero (by omega))
  · rw [if_neg h]
    refine .inr ⟨b, off + 1, rfl, hb, fun k hk => ?_⟩
    have := hr (1 + k) (by omega)
    rw [Nat.add_assoc, this, List.getD_eq_getElem?_getD, List.getD_eq_getElem?_getD, List.getElem?_drop]
end Go.Proofs.YtndoibmpnhkmpaaGreatDoor
/-
  Der: a few bits as a number.
-/
namespace Go.Proofs.YtndoibmpnhkmpaaGreatDoor
open Go.RowKit
theorem bits_or_comm (k : IntKind) (x y : Int) : bits .or k x y = bits .or k y x := by unfold bits; simp only []; rw [BitVec.or_comm]
theorem or_hi (s : Nat) (x y : Int) (hx0 : 0 ≤ x) (hx : x * 2 ^ s < 4294967296) (hy0 : 0 ≤ y) (hy : y < 2 ^ s) (hs : s ≤ 32) : bits .or .u32 (x * 2 ^ s) y = x * 2 ^ s + y := by
  obtain ⟨a, rfl⟩ := Int.eq_ofNat_of_zero_le hx0
  obtain ⟨b, rfl⟩ := Int.eq_ofNat_of_zero_le hy0
  have e : ((a * 2 ^ s : Nat) : Int) = (a : Int) * 2 ^ s := by simp
  have hb : b < 2 ^ s := by
    have : ((b : Nat) : Int) < ((2 ^ s : Nat) : Int) := by rw [Int.natCast_pow]; exact hy
    exact Int.ofNat_lt.1 this
  have ha : a * 2 ^ s < 2 ^ 32 := by
    have : ((a * 2 ^ s : Nat) : Int) < ((2 ^ 32 : Nat) : Int) := by rw [e]; exact hx
    exact Int.ofNat_lt.1 this
  have hb2 : b < 2 ^ 32 := Nat.lt_of_lt_of_le hb (Nat.pow_le_pow_right (by decide) hs)
  have h := (bits_nat .u32 32 (by decide) (fun n h₀ h₁ => by rw [IntKind.wrap_u32']; omega) (a * 2 ^ s) b ha hb2).2
  rw [e] at h
  rw [h, Nat.mul_comm a, ← Nat.two_pow_add_eq_or_of_lt hb a, Nat.mul_comm, Int.natCast_add, e]
/-- The number of bytes Y: each turned about, the first one lowest. -/
def flagN (Y : List Int) : Nat → Int
  | 0 => 0
  | i + 1 => flagN Y i + Lib.rev8 (Y.getD i 0) * 2 ^ (8 * i)
theorem rev8_u8 (x : Int) : 0 ≤ Lib.rev8 x ∧ Lib.rev8 x < 256 := by
  unfold Lib.rev8
  have := ((Lib.rev8tab[x.toNat]?).getD 0).toNat_lt
  omega
theorem flagN_lt (Y : List Int) : ∀ i, 0 ≤ flagN Y i ∧ flagN Y i < 2 ^ (8 * i)
  | 0 => by simp [flagN]
  | i + 1 => by
    have h1 := flagN_lt Y i
    have h2 := rev8_u8 (Y.getD i 0)
    have e : (2 : Int) ^ (8 * (i + 1)) = 256 * 2 ^ (8 * i) := by rw [show 8 * (i + 1) = 8 + 8 * i by omega, Int.pow_add]; rfl
    show 0 ≤ flagN Y i + Lib.rev8 (Y.getD i 0) * 2 ^ (8 * i) ∧ flagN Y i + Lib.rev8 (Y.getD i 0) * 2 ^ (8 * i) < _
    rw [e]
    generalize Lib.rev8 (Y.getD i 0) = r at *
    have hp : (0 : Int) < 2 ^ (8 * i) := Int.pow_pos (by decide)
    generalize (2 : Int) ^ (8 * i) = p at *
    have h3 : 0 ≤ r * p := Int.mul_nonneg h2.1 (by omega)
    have h4 : r * p ≤ 255 * p := Int.mul_le_mul_of_nonneg_right (by omega) (by omega)
    omega
def FlagsVal (X : List Int) : Int := if bitsOk X = true ∧ X.length ≤ 5 then flagN (X.drop 1) (X.length - 1) else 0
def FlagsErr (X : List Int) : Int := if bitsOk X = true then (if X.length ≤ 5 then 0 else 3) else 6
end Go.Proofs.YtndoibmpnhkmpaaGreatDoor
/-
  Der: the page's examples, all.
-/
namespace Go.Proofs.YtndoibmpnhkmpaaGreatDoor
open Go.RowKit
theorem flags_ex : FlagsVal [5, 160] = 5 ∧ FlagsErr [5, 160] = 0 := by decide +kernel
theorem ex_u8 : U8s [5, 160] := by intro x hx; unfold U8; simp at hx; omega
end Go.Proofs.YtndoibmpnhkmpaaGreatDoor
/-
  Der: any number in bytes of seven bits.
-/
namespace Go.Proofs.YtndoibmpnhkmpaaGreatDoor
open Go.RowKit
/-- A group of seven bits that another follows. -/
def gr (n j : Nat) : Int := ((n / 128 ^ j % 128 + 128 : Nat) : Int)
/-- The first i of the groups k, k - 1, .. -/
def tp (n k : Nat) : Nat → List Int
  | 0 => []
  | i + 1 => tp n k i ++ [gr n (k - i)]
def sev (k n : Nat) : List Int := tp n k k ++ [((n % 128 : Nat) : Int)]
theorem tp_len (n k : Nat) : ∀ i, (tp n k i).length = i
  | 0 => rfl
  | i + 1 => by show (tp n k i ++ [_]).length = _; rw [List.length_append, tp_len n k i]; rfl
theorem or_128 (x : Int) (h : U8 x) : bits .or .u8 x 128 = x % 128 + 128 := by
  obtain ⟨h0, h1⟩ := h
  obtain ⟨k, rfl⟩ := Int.eq_ofNat_of_zero_le h0
  have : ∀ y : Fin 256, bits .or .u8 ((y : Nat) : Int) 128 = ((y : Nat) : Int) % 128 + 128 := by decide +kernel
  exact this ⟨k, by omega⟩
theorem and_127w (z : Int) (h0 : 0 ≤ z) (h1 : z < 18446744073709551616) : bits .and .u64 z 127 = z % 128 := by go_bits2
theorem wrapU8 (z : Int) (h0 : 0 ≤ z) (h1 : z < 256) : IntKind.u8.wrap z = z := by rw [IntKind.wrap_u8]; omega
theorem div_sev (n j s : Nat) (hs : s = 7 * j) : (n : Int) / 2 ^ s = ((n / 128 ^ j : Nat) : Int) := by
  subst hs
  rw [Int.pow_mul]
  simp
theorem Row.drew {k : IntKind} {e : TypeId} {B : Nat} {w : World} {v : Value} {xs : List Int} (h : Row k e B w v xs) : Row k e B w.drew v xs :=
  h.below ⟨rfl, rfl, rfl, Nat.le_refl _, fun _ _ => rfl⟩
set_option maxRecDepth 20000 in
set_option maxHeartbeats 2000000 in
theorem sevens_any {w : World} (B : Nat) (v : Value) (X : List Int) (n k : Nat) (hr : Row .u8 5 B w v X) (hB : B ≤ w.heap.size) (hk : n / 128 ^ k < 128) (hk1 : ∀ j, j < k → 128 ≤ n / 128 ^ j) (hk8 : k ≤ 8) (hn : n < 9223372036854775808) (hX : X.length ≤ 100000000) :
    Calls Tryz.prog 120 #[v, .int .u64 n] w fun e w' => ∃ r, e = .returned r ∧ Row .u8 5 B w' r (X ++ sev k n) ∧ Below B w w' := by
  have HR : Hid (Row .u8 5 B w v X) := hr
  have HK : Hid (n / 128 ^ k < 128 ∧ ∀ j, j < k → 128 ≤ n / 128 ^ j) := ⟨hk, hk1⟩
  clear hr hk hk1
  have n0 : (0 : Int) ≤ (n : Int) := by omega
  have a127 := and_127w (n : Int) n0 (by omega)
  have w127 : IntKind.u8.wrap ((n : Int) % 128) = (n : Int) % 128 := wrapU8 _ (by omega) (by omega)
  go_enter Tryz.func120, Tryz.ntmps120
  go_wp2_with fail
  go_loopw [5] (fun sv wr => ∃ j s : Nat, sv = .int .i64 s ∧ s = 7 * j ∧ j ≤ k ∧ w = wr) (fun sv _ => 7 * k - (intOf sv).toNat)
  case atStart => exact ⟨0, 0, rfl, rfl, by omega, rfl⟩
  case round =>
    obtain ⟨j, s, rfl, hs, hj, rfl⟩ := hrel
    have HS : Hid (s = 7 * j) := hs
    obtain ⟨q, hq⟩ : ∃ q, n / 128 ^ j = q := ⟨_, rfl⟩
    have HQ : Hid (n / 128 ^ j = q) := hq
    have hd := div_sev n j s hs
    rw [hq] at hd
    clear hq
    have s0 : (s : Int) ≤ 56 := by omega
    clear hs
    by_cases hlt : j < k
    · have hge : (128 : Int) ≤ (q : Int) := by have := HK.out.2 j hlt; rw [HQ.out] at this; omega
      go_wp2
      go_roundw
      case rel => exact ⟨j + 1, s + 7, by go_num, by have := HS.out; omega, by omega, trivial⟩
      case measure => have := HS.out; simp [intOf]; omega
    · obtain rfl : j = k := by omega
      have hge : ¬ (128 : Int) ≤ (q : Int) := by have := HK.out.1; rw [HQ.out] at this; omega
      go_wp2
      go_loopw [0, 5] (fun bv sv wr => ∃ (i s : Nat) (b0 : Value), b0 = bv ∧ sv = .int .i64 s ∧ s + 7 * i = 7 * j ∧ Row .u8 5 B wr b0 (X ++ tp n j i) ∧ Below B w wr) (fun _ sv _ => (intOf sv).toNat)
      case atStart => exact ⟨0, s, _, rfl, rfl, by have := HS.out; omega, by simpa [tp] using HR.out, Below.refl _ _⟩
      case round =>
        clear hd s0 hge
        obtain ⟨i, s', b0, rfl, rfl, hs', hr, hb⟩ := hrel
        have H1 : Hid (Row .u8 5 B wr b0 (X ++ tp n j i) ∧ Below B w wr ∧ s' + 7 * i = 7 * j) := ⟨hr, hb, hs'⟩
        by_cases h0 : 0 < s'
        · have h0I : (0 : Int) < (s' : Int) := by omega
          have h7 : 7 ≤ s' := by omega
          obtain ⟨q', hq'⟩ : ∃ q, n / 128 ^ (j - i) = q := ⟨_, rfl⟩
          have hd := div_sev n (j - i) s' (by omega)
          rw [hq'] at hd
          have s0 : (s' : Int) ≤ 56 := by omega
          obtain ⟨x, hx⟩ : ∃ x : Int, IntKind.u8.wrap (q' : Int) = x := ⟨_, rfl⟩
          have ho : bits .or .u8 x 128 = gr n (j - i) := by
            rw [IntKind.wrap_u8] at hx
            rw [or_128 x ⟨by omega, by omega⟩]
            unfold gr
            rw [hq']
            omega
          obtain ⟨y, hy⟩ : ∃ y : Int, gr n (j - i) = y := ⟨_, rfl⟩
          have HY : Hid (gr n (j - i) = y) := hy
          rw [hy] at ho
          clear hq' hy hr hb hs'
          go_wp2_with (at_builtin; refine wpList_ap rfl (.tmp 16) (.tmp 22) 25 25 rfl .u8 5 1 Tryz.und8 Tryz.info8 (by decide) B _ (X ++ tp n j i) rfl (H1.out.1.alloc _) _ [y] rfl (src_sl Tryz.und8 (new1 y)) (by have := tp_len n j i; have := H1.out.2.2; simp; omega) (by have := H1.out.2.1.size; simp; omega) ?_; intro v1 w1 hr hg)
          have hb1 : Below B w w1 := (H1.out.2.1.trans ((al1 _).mono (by have := H1.out.2.1.size; omega))).trans (hg.below (H1.out.1.alloc _) (by have := H1.out.2.1.size; simp; omega))
          have hr' : Row .u8 5 B w1 v1 (X ++ tp n j (i + 1)) := by
            show Row _ _ _ _ _ (X ++ (tp n j i ++ [gr n (j - i)]))
            rw [HY.out, ← List.append_assoc]; exact hr
          have H2 : Hid (Row .u8 5 B w1 v1 (X ++ tp n j (i + 1)) ∧ Below B w w1) := ⟨hr', hb1⟩
          clear hr hg hb1 hr'
          go_roundw
          case rel => exact ⟨i + 1, s' - 7, _, rfl, by go_num, by have := H1.out.2.2; omega, H2.out.1, H2.out.2⟩
          case measure => simp [intOf]; omega
        · have h0I : ¬ (0 : Int) < (s' : Int) := by omega
          obtain rfl : i = j := by omega
          obtain ⟨y, hy⟩ : ∃ y : Int, (n : Int) % 128 = y := ⟨_, rfl⟩
          have HY : Hid ((n : Int) % 128 = y) := hy
          rw [hy] at a127 w127
          clear hr hb hs' hy
          go_wp2_with (at_builtin; refine wpList_ap rfl (.tmp 24) (.tmp 28) 25 25 rfl .u8 5 1 Tryz.und8 Tryz.info8 (by decide) B _ (X ++ tp n i i) rfl (H1.out.1.alloc _) _ [y] rfl (src_sl Tryz.und8 (new1 y)) (by have := tp_len n i i; simp; omega) (by have := H1.out.2.1.size; simp; omega) ?_; intro v1 w1 hr hg)
          have hb1 : Below B w w1 := (H1.out.2.1.trans ((al1 _).mono (by have := H1.out.2.1.size; omega))).trans (hg.below (H1.out.1.alloc _) (by have := H1.out.2.1.size; simp; omega))
          go_ret
          refine ⟨_, rfl, ?_, hb1⟩
          unfold sev
          rw [← List.append_assoc]
          have e : ((n % 128 : Nat) : Int) = y := by have := HY.out; omega
          rw [e]; exact hr
end Go.Proofs.YtndoibmpnhkmpaaGreatDoor
/-
  Der: any length; any head.
-/
namespace Go.Proofs.YtndoibmpnhkmpaaGreatDoor
open Go.RowKit
def by8 (n j : Nat) : Int := ((n / 256 ^ j % 256 : Nat) : Int)
/-- The first i of the bytes c - 1, c - 2, .. -/
def tb (n c : Nat) : Nat → List Int
  | 0 => []
  | i + 1 => tb n c i ++ [by8 n (c - 1 - i)]
theorem tb_len (n c : Nat) : ∀ i, (tb n c i).length = i
  | 0 => rfl
  | i + 1 => by show (tb n c i ++ [_]).length = _; rw [List.length_append, tb_len n c i]; rfl
def lenB (n c : Nat) : List Int := if n < 128 then [(n : Int)] else (128 + (c : Int)) :: tb n c c
theorem div_by8 (n j s : Nat) (hs : s = 8 * j) : (n : Int) / 2 ^ s = ((n / 256 ^ j : Nat) : Int) := by
  subst hs
  rw [Int.pow_mul]
  simp
set_option maxRecDepth 20000 in
set_option maxHeartbeats 2000000 in
theorem length_any {w : World} (n c : Nat) (hc : n / 256 ^ c = 0) (hc1 : ∀ j, j < c → 0 < n / 256 ^ j) (hc8 : c ≤ 7) (hn : n < 9223372036854775808) :
    Calls Tryz.prog 133 #[.int .i64 n] w fun e w' => ∃ r, e = .returned r ∧ Row .u8 5 w.heap.size w' r (lenB n c) ∧ Below w.heap.size w w' := by
  have HC : Hid (n / 256 ^ c = 0 ∧ ∀ j, j < c → 0 < n / 256 ^ j) := ⟨hc, hc1⟩
  clear hc hc1
  by_cases h1 : n < 128
  · have HL : Hid (lenB n c = [(n : Int)]) := by show _ = _; unfold lenB; rw [if_pos h1]
    have i1 : (n : Int) < 128 := by omega
    have i2 : IntKind.u8.wrap (n : Int) = (n : Int) := wrapU8 _ (by omega) (by omega)
    go_enter Tryz.func133, Tryz.ntmps133
    go_wp2
    go_ret
    rw [HL.out]
    exact ⟨_, rfl, (Row.arr (S := [_]) (arr_nw rfl rfl) (Nat.le_refl _) (by simp [maxLen])), al1 _⟩
  · have HL : Hid (lenB n c = (128 + (c : Int)) :: tb n c c) := by show _ = _; unfold lenB; rw [if_neg h1]
    have i1 : ¬ (n : Int) < 128 := by omega
    have i2 : IntKind.u8.wrap (c : Int) = (c : Int) := wrapU8 _ (by omega) (by omega)
    have i3 : IntKind.u8.wrap (128 + (c : Int)) = 128 + (c : Int) := wrapU8 _ (by omega) (by omega)
    go_enter Tryz.func133, Tryz.ntmps133
    go_wp2_with fail
    go_loopw [3, 4] (fun cv rv wr => ∃ j q : Nat, cv = .int .i64 j ∧ rv = .int .i64 q ∧ n / 256 ^ j = q ∧ j ≤ c ∧ w = wr) (fun cv _ _ => c - (intOf cv).toNat)
    case atStart => exact ⟨0, n, rfl, rfl, by simp, by omega, rfl⟩
    case round =>
      obtain ⟨j, q, rfl, rfl, hq, hj, rfl⟩ := hrel
      have HQ : Hid (n / 256 ^ j = q) := hq
      clear hq
      by_cases hlt : j < c
      · have hg : (0 : Int) < (q : Int) := by have := HC.out.2 j hlt; rw [HQ.out] at this; omega
        go_wp2
        go_roundw
        case rel => exact ⟨j + 1, q / 256, by go_num, by go_num, by rw [Nat.pow_succ, ← Nat.div_div_eq_div_mul, HQ.out], by omega, trivial⟩
        case measure => simp [intOf]; omega
      · obtain rfl : j = c := by omega
        have hg : ¬ (0 : Int) < (q : Int) := by have := HC.out.1; rw [HQ.out] at this; omega
        go_wp2
        go_loopw [5, 24] (fun bv iv wr => ∃ (i : Nat) (b0 : Value), b0 = bv ∧ iv = .int .i64 i ∧ i ≤ j ∧ Row .u8 5 w.heap.size wr b0 ((128 + (j : Int)) :: tb n j i) ∧ Below w.heap.size w wr) (fun _ iv _ => j - (intOf iv).toNat)
        case atStart => exact ⟨0, _, rfl, rfl, by omega, (Row.arr (S := [_]) (arr_nw rfl rfl) (Nat.le_refl _) (by simp [maxLen])), al1 _⟩
        case round =>
          obtain ⟨i, b0, rfl, rfl, hi, hr, hb⟩ := hrel
          have H1 : Hid (Row .u8 5 w.heap.size wr b0 ((128 + (j : Int)) :: tb n j i) ∧ Below w.heap.size w wr) := ⟨hr, hb⟩
          clear hr hb hg
          by_cases hlt : i < j
          · have l1 : (i : Int) < (j : Int) := by omega
            obtain ⟨c1, hc1⟩ : ∃ c1, j = c1 + 1 := ⟨j - 1, by omega⟩
            obtain ⟨d, hd1⟩ : ∃ d, c1 = d + i := ⟨c1 - i, by omega⟩
            have e1 : (j : Int) - 1 = (c1 : Int) := by omega
            have e2 : (c1 : Int) - (i : Int) = (d : Int) := by omega
            have e3 : (d : Int) ≤ 7 := by omega
            have e4 : (c1 : Int) ≤ 7 := by omega
            have HJ : Hid (j = d + i + 1) := by show _ = _; omega
            clear hc1 hd1
            have hd := div_by8 n d (8 * d) rfl
            obtain ⟨q', hq'⟩ : ∃ q, n / 256 ^ d = q := ⟨_, rfl⟩
            rw [hq'] at hd
            obtain ⟨y, hy⟩ : ∃ y : Int, (q' : Int) % 256 = y := ⟨_, rfl⟩
            have hy2 : IntKind.u8.wrap (q' : Int) = y := by rw [IntKind.wrap_u8]; exact hy
            have HY : Hid (by8 n d = y) := by
              show _ = _
              unfold by8
              rw [hq']
              omega
            clear hq'
            go_wp2_with (at_builtin; refine wpList_ap rfl (.tmp 27) (.tmp 36) 25 25 rfl .u8 5 1 Tryz.und8 Tryz.info8 (by decide) w.heap.size _ ((128 + (j : Int)) :: tb n j i) rfl (H1.out.1.alloc _) _ [y] rfl (src_sl Tryz.und8 (new1 y)) (by have := tb_len n j i; simp; omega) (by have := H1.out.2.size; simp; omega) ?_; intro v1 w1 hr hg)
            have hb1 : Below w.heap.size w w1 := (H1.out.2.trans ((al1 _).mono H1.out.2.size)).trans (hg.below (H1.out.1.alloc _) (by have := H1.out.2.size; simp; omega))
            have hr' : Row .u8 5 w.heap.size w1 v1 ((128 + (j : Int)) :: tb n j (i + 1)) := by
              have e : tb n j (i + 1) = tb n j i ++ [by8 n (j - 1 - i)] := rfl
              rw [e, show j - 1 - i = d by have := HJ.out; omega, HY.out]
              exact hr
            have H2 : Hid (Row .u8 5 w.heap.size w1 v1 ((128 + (j : Int)) :: tb n j (i + 1)) ∧ Below w.heap.size w w1) := ⟨hr', hb1⟩
            clear hr hg hb1 hr'
            go_roundw
            case rel => exact ⟨i + 1, _, rfl, by go_num, by omega, H2.out.1, H2.out.2⟩
            case measure => simp [intOf]; omega
          · obtain rfl : i = j := by omega
            have l1 : ¬ (i : Int) < (i : Int) := by omega
            go_wp2
            go_ret
            rw [HL.out]
            exact ⟨_, rfl, H1.out.1, H1.out.2⟩
end Go.Proofs.YtndoibmpnhkmpaaGreatDoor
/-
  Der: which heads may be.
-/
namespace Go.Proofs.YtndoibmpnhkmpaaGreatDoor
open Go.RowKit
def headOk (class_ tag : Int) : Bool := decide (0 ≤ class_ ∧ class_ ≤ 3 ∧ 0 ≤ tag ∧ tag ≤ 268435455 ∧ ¬ (class_ = 0 ∧ tag = 0))
set_option maxHeartbeats 2000000 in
theorem isHead_any {w : World} (c t : Int) : Calls Tryz.prog 131 #[.int .i64 c, .int .i64 t] w fun e w' => e = .returned (.bool (headOk c t)) ∧ w = w' := by
  have HH : Hid (headOk c t = decide (0 ≤ c ∧ c ≤ 3 ∧ 0 ≤ t ∧ t ≤ 268435455 ∧ ¬ (c = 0 ∧ t = 0))) := rfl
  obtain ⟨r, hr⟩ : ∃ r, headOk c t = r := ⟨_, rfl⟩
  rw [hr] at HH ⊢
  clear hr
  by_cases h1 : c < 0
  · have HF : Hid (r = false) := by show _ = _; rw [HH.out]; simp; omega
    go_enter Tryz.func131, Tryz.ntmps131
    go_wp2
    go_ret
    exact ⟨by rw [HF.out]; rfl, rfl⟩
  by_cases h2 : 3 < c
  · have HF : Hid (r = false) := by show _ = _; rw [HH.out]; simp; omega
    go_enter Tryz.func131, Tryz.ntmps131
    go_wp2
    go_ret
    exact ⟨by rw [HF.out]; rfl, rfl⟩
  by_cases h3 : t < 0
  · have HF : Hid (r = false) := by show _ = _; rw [HH.out]; simp; omega
    go_enter Tryz.func131, Tryz.ntmps131
    go_wp2
    go_ret
    exact ⟨by rw [HF.out]; rfl, rfl⟩
  by_cases h4 : 268435455 < t
  · have HF : Hid (r = false) := by show _ = _; rw [HH.out]; simp; omega
    go_enter Tryz.func131, Tryz.ntmps131
    go_wp2
    go_ret
    exact ⟨by rw [HF.out]; rfl, rfl⟩
  by_cases h5 : c = 0
  · subst h5
    by_cases h6 : t = 0
    · subst h6
      have HF : Hid (r = false) := by show _ = _; rw [HH.out]; simp
      go_enter Tryz.func131, Tryz.ntmps131
      go_wp2
      go_ret
      exact ⟨by rw [HF.out]; rfl, rfl⟩
    · have HF : Hid (r = true) := by show _ = _; rw [HH.out]; simp; omega
      have h6b : (t != 0) = true := by simpa using h6
      go_enter Tryz.func131, Tryz.ntmps131
      go_wp2
      go_ret
      exact ⟨by rw [HF.out]; rfl, rfl⟩
  · have HF : Hid (r = true) := by show _ = _; rw [HH.out]; simp; omega
    have h5b : (c != 0) = true := by simpa using h5
    go_enter Tryz.func131, Tryz.ntmps131
    go_wp2
    go_ret
    exact ⟨by rw [HF.out]; rfl, rfl⟩
end Go.Proofs.YtndoibmpnhkmpaaGreatDoor
/-
  Der: any head.
-/
namespace Go.Proofs.YtndoibmpnhkmpaaGreatDoor
open Go.RowKit
def frst (class_ : Int) (cons : Bool) : Int := class_ * 64 + (if cons then 32 else 0)
def headB (class_ : Int) (cons : Bool) (tag k : Nat) : List Int := if tag < 31 then [frst class_ cons + tag] else (frst class_ cons + 31) :: sev k tag
theorem or_low (a t : Nat) (ha : a < 8) (ht : t < 32) : bits .or .u8 (32 * (a : Int)) (t : Int) = 32 * (a : Int) + t := by
  have : ∀ (a : Fin 8) (t : Fin 32), bits .or .u8 (32 * ((a : Nat) : Int)) ((t : Nat) : Int) = 32 * ((a : Nat) : Int) + ((t : Nat) : Int) := by decide +kernel
  exact this ⟨a, ha⟩ ⟨t, ht⟩
theorem or_31 (a : Nat) (ha : a < 8) : bits .or .u8 (32 * (a : Int)) 31 = 32 * (a : Int) + 31 := or_low a 31 ha (by decide)
theorem or_c0 : bits .or .u8 0 32 = 32 := by decide +kernel
theorem or_c1 : bits .or .u8 64 32 = 96 := by decide +kernel
theorem or_c2 : bits .or .u8 128 32 = 160 := by decide +kernel
theorem or_c3 : bits .or .u8 192 32 = 224 := by decide +kernel
set_option maxRecDepth 20000 in
set_option maxHeartbeats 4000000 in
theorem head_any {w : World} (c : Int) (cons : Bool) (t k : Nat) (h0 : 0 ≤ c) (h3 : c ≤ 3) (hk : t / 128 ^ k < 128) (hk1 : ∀ j, j < k → 128 ≤ t / 128 ^ j) (hk8 : k ≤ 8) (ht : t ≤ 268435455) :
    Calls Tryz.prog 132 #[.int .i64 c, .int .i64 t, .bool cons] w fun e w' => ∃ r, e = .returned r ∧ Row .u8 5 w.heap.size w' r (headB c cons t k) ∧ Below w.heap.size w w' := by
  have HK : Hid (t / 128 ^ k < 128 ∧ ∀ j, j < k → 128 ≤ t / 128 ^ j) := ⟨hk, hk1⟩
  clear hk hk1
  obtain ⟨a, ha, hf⟩ : ∃ a : Nat, a < 8 ∧ frst c cons = 32 * (a : Int) := by
    unfold frst
    cases cons
    · exact ⟨(2 * c).toNat, by omega, by simp; omega⟩
    · exact ⟨(2 * c + 1).toNat, by omega, by simp; omega⟩
  have o0 := or_c0
  have o1 := or_c1
  have o2 := or_c2
  have o3 := or_c3
  have hc : c = 0 ∨ c = 1 ∨ c = 2 ∨ c = 3 := by omega
  by_cases hlt : t < 31
  · have HB : Hid (headB c cons t k = [32 * (a : Int) + t]) := by show _ = _; unfold headB; rw [if_pos hlt, hf]
    have ho := or_low a t ha (by omega)
    have w1 : IntKind.u8.wrap (t : Int) = (t : Int) := wrapU8 _ (by omega) (by omega)
    have l1 : (t : Int) < 31 := by omega
    rcases hc with rfl | rfl | rfl | rfl <;> cases cons
    all_goals
      have hf' := hf
      unfold frst at hf'
      simp at hf'
      obtain ⟨y, hy⟩ : ∃ y : Int, 32 * (a : Int) + t = y := ⟨_, rfl⟩
      rw [hy] at HB ho
      rw [← hf'] at ho
      clear hf hf' ha hy
      go_enter Tryz.func132, Tryz.ntmps132
      go_wp2
      go_ret
      rw [HB.out]
      exact ⟨_, rfl, (Row.arr (S := [_]) (arr_nw rfl rfl) (Nat.le_refl _) (by simp [maxLen])), al1 _⟩
  · have HB : Hid (headB c cons t k = [32 * (a : Int) + 31] ++ sev k t) := by show _ = _; unfold headB; rw [if_neg hlt, hf]; rfl
    have ho := or_31 a ha
    have w1 : IntKind.u64.wrap (t : Int) = (t : Int) := by rw [IntKind.wrap_u64]; omega
    have l1 : ¬ (t : Int) < 31 := by omega
    rcases hc with rfl | rfl | rfl | rfl <;> cases cons
    all_goals
      have hf' := hf
      unfold frst at hf'
      simp at hf'
      obtain ⟨y, hy⟩ : ∃ y : Int, 32 * (a : Int) + 31 = y := ⟨_, rfl⟩
      rw [hy] at HB ho
      rw [← hf'] at ho
      clear hf hf' ha hy
      go_enter Tryz.func132, Tryz.ntmps132
      go_wp2_with fail
      refine (sevens_any w.heap.size _ [_] t k (Row.arr (S := [_]) (arr_nw rfl rfl) (Nat.le_refl _) (by simp [maxLen])) (by simp) HK.out.1 HK.out.2 hk8 (by omega) (by simp)).mono ?_
      rintro e w2 ⟨r, rfl, hr, hb⟩
      have H2 : Hid (Row .u8 5 w.heap.size w2 r (headB _ _ t k) ∧ Below w.heap.size w w2) := ⟨by rw [HB.out]; exact hr, (al1 _).trans hb⟩
      clear hr hb
      go_wp2
      go_ret
      exact ⟨_, rfl, H2.out.1, H2.out.2⟩
end Go.Proofs.YtndoibmpnhkmpaaGreatDoor
