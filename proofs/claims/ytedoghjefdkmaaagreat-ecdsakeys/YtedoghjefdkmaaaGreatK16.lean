/-
  Der: the page's example of a row of elements.
-/
import Derived.Laws.BytesArg
import Derived.Lib.OthersKept
import Derived.Laws.RangeString
import Derived.Lib.Tables
import Derived.Deep.RegionHeld3
import Derived.Test.YtedoghjefdkmaaaGreatK15
namespace Go.Proofs.YtedoghjefdkmaaaGreat
open Go.RowKit
abbrev zeroT : Value := .agg #[.int .i64 0, .int .i64 0, .bool false, .slice none 0 0, .slice none 0 0]
theorem Tryz.infoT : (Tryz.prog.info? 105).map (fun i => (i.zero, i.size, i.bytes)) = some (some zeroT, 5, 72) := by kernel_rfl
theorem Tryz.undT : Tryz.prog.underlying 108 = some (.slice 105) := by kernel_rfl
theorem src_m {P : Program} {tx e' T : TypeId} (hk : P.underlying tx = some (.slice e')) {w : World} {b : Nat} (m : Nat) {vs : List Value} (h : Blk T w b vs) (hl : vs.length = 1 * m) (ho : ∀ u ∈ vs, u.oneCell' = true) : Src P m tx (.slice (some ⟨b, 0, none⟩) 1 1) 1 vs w := by
  refine Src.ofSlice w hk _ _ _ _ hl (fun j u hj => ?_) ho
  have hadd : (⟨b, 0, none⟩ : Addr).add j = ⟨b, j, none⟩ := by simp [Addr.add] <;> omega
  rw [hadd, h.cell j, hj]
theorem blk_nw {e : TypeId} {w : World} {b : Nat} {cs : Array Value} {xs : List Value} (hb : b = w.heap.size) (h : cs = xs.toArray) : Blk e (w.alloc (.cells cs e)) b xs := by subst hb; subst h; exact Blk.new e w _
theorem MRow.upd {m : Nat} {e : TypeId} {B : Nat} {w w' : World} {v : Value} {n : Nat} {xs : List Value} {g : Nat} (h : MRow m e B w v n xs) (hu : Upd w w' g) (hg : g < B) : MRow m e B w' v n xs := by
  obtain ⟨h0, h⟩ := h
  refine ⟨h0, ?_⟩
  rcases h with h | ⟨b, S, c, rfl, h1, hA, h2⟩
  · exact .inl h
  · exact .inr ⟨b, S, c, rfl, h1, hu.blk hA (by omega), h2⟩
theorem MRow.at {m : Nat} {e : TypeId} {B : Nat} {w : World} {v : Value} {n : Nat} {xs : List Value} (h : MRow m e B w v n xs) (hn : 0 < n) : ∃ b c, v = .slice (some ⟨b, 0, none⟩) n c ∧ n ≤ c ∧ B ≤ b ∧ b < w.heap.size ∧ ∀ i, i < n * m → w.cell? ⟨b, i, none⟩ = xs[i]? := by
  obtain ⟨h0, h⟩ := h
  rcases h with ⟨_, h⟩ | ⟨b, S, c, rfl, h1, hA, h2, h3, h4, h5⟩
  · omega
  · refine ⟨b, c, rfl, h3, h1, hA.lt, fun i hi => ?_⟩
    rw [hA.cell i, ← h4, List.getElem?_take, if_pos hi]
theorem Row.mgrew {B : Nat} {w w' : World} {v u : Value} {xs : List Int} (h : Row .u8 5 B w v xs) (hg : MGrew 105 w w' u) : Row .u8 5 B w' v xs := by
  rcases hg with hg | ⟨b', n, c, S', _, hB, hU⟩
  · exact h.below hg
  · rcases h with h | ⟨b, S, rfl, h1, hA, h2⟩
    · exact .inl h
    · refine .inr ⟨b, S, rfl, h1, hU.arr hA (fun e => ?_), h2⟩
      subst e
      unfold Arr at hA
      unfold Blk at hB
      rw [hA] at hB
      simp at hB
theorem tlv_one (a b : Int) (c : Bool) (a1 a2 : Option Addr) (n1 n2 c1 c2 : Nat) : ∀ u ∈ [Value.int .i64 a, .int .i64 b, .bool c, .slice a1 n1 c1, .slice a2 n2 c2], u.oneCell' = true := by
  intro u hu
  simp only [List.mem_cons, List.not_mem_nil, or_false] at hu
  rcases hu with rfl | rfl | rfl | rfl | rfl <;> rfl
def exM : List Int := [2, 1, 5, 48, 2, 5, 0]
set_option maxRecDepth 20000 in
set_option maxHeartbeats 4000000 in
theorem Split_live {w : World} (b : Nat) (hA : Arr .u8 5 w b exM) :
    Calls Tryz.prog 95 #[.slice (some ⟨b, 0, none⟩) 7 7] w fun e w' => ∃ bl cl bd cd, e = .returned (.tuple #[.slice (some ⟨bl, 0, none⟩) 2 cl, .int .i64 0, .int .i64 7]) ∧ 2 ≤ cl ∧ w'.cell? ⟨bl, 1, none⟩ = some (.int .i64 2) ∧ w'.cell? ⟨bl, 7, none⟩ = some (.bool true) ∧ w'.cell? ⟨bl, 8, none⟩ = some (.slice (some ⟨bd, 0, none⟩) 2 cd) ∧ Row .u8 5 w.heap.size w' (.slice (some ⟨bd, 0, none⟩) 2 cd) [5, 0] ∧ Below w.heap.size w w' := by
  have hb := hA.lt
  have hM : Rd .u8 w b 0 exM := hA.rd 0 7 (by simp [exM])
  have HX : Hid (Rd .u8 w b 0 exM) := hM
  clear hA hM
  go_enter Tryz.func95, Tryz.ntmps95
  go_wp2_with fail
  refine wp_gen (fun W => Rdr W w.heap.size b 0 7 7 0 ∧ Below w.heap.size w W) ⟨Blk.new _ w _, al1 _⟩ ?_
  rintro v1 hv1
  have H1 : Hid (Rdr v1 w.heap.size b 0 7 7 0 ∧ Below w.heap.size w v1) := ⟨hv1.1, hv1.2⟩
  have g1 : v1.cell? ⟨w.heap.size, 1, none⟩ = some (.int .i64 0) := hv1.1.cell 1
  clear hv1
  refine wp_loop_rounds 3 ?_
  rw [rounds_succ]
  go_wp2_with fail
  refine (element_short w.heap.size b 7 7 0 1 exM 2 0 2 0 H1.out.1 (below_rd H1.out.2 hb HX.out) rfl (by omega) (by omega) (Nat.lt_of_lt_of_le hb H1.out.2.size) (by omega) (by omega) rfl rfl (by omega) (by decide) (by decide +kernel) (by decide +kernel) (by decide) (by decide) (by decide) (by decide)).mono ?_
  rintro e v2 ⟨d, r, rfl, hu, hr, hd, hrw⟩
  obtain ⟨ad, cd, hv⟩ := hd.ne
  rw [show ((exM.drop (0 + 2)).take 1).length = 1 from rfl] at hv
  subst hv
  obtain ⟨ar, cr, hv⟩ := hrw.ne
  rw [show ((exM.drop 0).take (2 + 1)).length = 3 from rfl] at hv
  subst hv
  have hs1 : w.heap.size < v1.heap.size := H1.out.1.lt
  have H2 : Hid (Rdr v2 w.heap.size b 0 7 7 3 ∧ Below w.heap.size w v2 ∧ w.heap.size < v2.heap.size) := ⟨hr, ⟨hu.os.trans H1.out.2.os, hu.tape.trans H1.out.2.tape, hu.output.trans H1.out.2.output, Nat.le_trans H1.out.2.size hu.size, fun j hj => (hu.block j (by omega) (fun e => by simp at e; omega)).trans (H1.out.2.block j hj)⟩, hr.lt⟩
  clear hu hr hd hrw g1
  go_wp2_with (at_builtin; refine wpList_apm rfl (.tmp 32) (.tmp 34) 108 108 rfl 5 zeroT rfl 105 72 Tryz.undT Tryz.infoT (by decide) (w.heap.size + 1) _ 0 [] rfl (MRow.nil _ _ _ _) _ 1 [.int .i64 0, .int .i64 2, .bool false, .slice ad 1 cd, .slice ar 3 cr] rfl (src_m (T := 105) Tryz.undT 5 (blk_nw (by simp) rfl) rfl (tlv_one _ _ _ _ _ _ _ _ _)) (by decide) (by have := H2.out.2.2; simp; omega) ?_; intro v v3 hr hg)
  have hb3 : Below (w.heap.size + 1) _ v3 := hg.below (MRow.nil 5 _ (w.heap.size + 1) _) (by have := H2.out.2.2; simp; omega)
  have hb23 : Below (w.heap.size + 1) v2 v3 := (((Below.refl _ _).alloc (by have := H2.out.2.2; omega) _).alloc (by have := H2.out.2.2; simp; omega) _).trans hb3
  have H3 : Hid (MRow 5 105 (w.heap.size + 1) v3 v 1 [.int .i64 0, .int .i64 2, .bool false, .slice ad 1 cd, .slice ar 3 cr] ∧ Rdr v3 w.heap.size b 0 7 7 3 ∧ Below w.heap.size w v3 ∧ w.heap.size < v3.heap.size) := ⟨hr, below_blk hb23 (by omega) H2.out.1, H2.out.2.1.trans (hb23.mono (by omega)), Nat.lt_of_lt_of_le H2.out.2.2 hb23.size⟩
  obtain ⟨al, cl, hv⟩ := hr.ne
  rw [Nat.zero_add] at hv
  subst hv
  have g1 : v3.cell? ⟨w.heap.size, 1, none⟩ = some (.int .i64 3) := H3.out.2.1.cell 1
  clear hr hg hb3 hb23
  rw [rounds_succ]
  go_wp2_with fail
  refine (element_short w.heap.size b 7 7 3 2 exM 48 0 16 32 H3.out.2.1 (below_rd H3.out.2.2.1 hb HX.out) rfl (by omega) (by omega) (Nat.lt_of_lt_of_le hb H3.out.2.2.1.size) (by omega) (by omega) rfl rfl (by omega) (by decide) (by decide +kernel) (by decide +kernel) (by decide) (by decide) (by decide) (by decide)).mono ?_
  rintro e v4 ⟨d, r, rfl, hu, hr, hd, hrw⟩
  obtain ⟨bd2, cd2, hv, _⟩ := hd.open 2 rfl (by omega)
  have hd' := hd
  subst hv
  obtain ⟨ar2, cr2, hv⟩ := hrw.ne
  rw [show ((exM.drop 3).take (2 + 2)).length = 4 from rfl] at hv
  subst hv
  have hs3 : w.heap.size < v3.heap.size := H3.out.2.2.2
  have H4 : Hid (Rdr v4 w.heap.size b 0 7 7 7 ∧ Below w.heap.size w v4 ∧ w.heap.size < v4.heap.size ∧ MRow 5 105 (w.heap.size + 1) v4 (.slice al 1 cl) 1 [.int .i64 0, .int .i64 2, .bool false, .slice ad 1 cd, .slice ar 3 cr] ∧ Row .u8 5 v3.heap.size v4 (.slice (some ⟨bd2, 0, none⟩) 2 cd2.length) [5, 0]) := ⟨hr, ⟨hu.os.trans H3.out.2.2.1.os, hu.tape.trans H3.out.2.2.1.tape, hu.output.trans H3.out.2.2.1.output, Nat.le_trans H3.out.2.2.1.size hu.size, fun j hj => (hu.block j (by omega) (fun e => by simp at e; omega)).trans (H3.out.2.2.1.block j hj)⟩, hr.lt, H3.out.1.upd hu (by omega), hd'⟩
  clear hu hr hd hrw g1 hd'
  obtain ⟨k2, hk2⟩ : ∃ k, cd2.length = k := ⟨_, rfl⟩
  rw [hk2] at H4
  simp only [hk2]
  clear hk2
  go_wp2_with (at_builtin; refine wpList_apm rfl (.tmp 32) (.tmp 34) 108 108 rfl 5 zeroT rfl 105 72 Tryz.undT Tryz.infoT (by decide) (w.heap.size + 1) _ 1 _ rfl ((H4.out.2.2.2.1.alloc _).alloc _) _ 1 [.int .i64 0, .int .i64 16, .bool true, .slice (some ⟨bd2, 0, none⟩) 2 k2, .slice ar2 4 cr2] rfl (src_m (T := 105) Tryz.undT 5 (blk_nw (by simp) rfl) rfl (tlv_one _ _ _ _ _ _ _ _ _)) (by decide) (by have := H4.out.2.2.1; simp; omega) ?_; intro v v5 hr hg)
  have hb5 : Below (w.heap.size + 1) _ v5 := hg.below ((H4.out.2.2.2.1.alloc _).alloc _) (by have := H4.out.2.2.1; simp; omega)
  have hb45 : Below (w.heap.size + 1) v4 v5 := (((Below.refl _ _).alloc (by have := H4.out.2.2.1; omega) _).alloc (by have := H4.out.2.2.1; simp; omega) _).trans hb5
  obtain ⟨bl, cl2, hv, hc2, hbl, hbv, hcells⟩ := hr.at (by omega)
  subst hv
  have e1 : v5.cell? ⟨bl, 1, none⟩ = some (.int .i64 2) := hcells 1 (by omega)
  have e7 : v5.cell? ⟨bl, 7, none⟩ = some (.bool true) := hcells 7 (by omega)
  have e8 : v5.cell? ⟨bl, 8, none⟩ = some (.slice (some ⟨bd2, 0, none⟩) 2 k2) := hcells 8 (by omega)
  have hrow : Row .u8 5 v3.heap.size v5 (.slice (some ⟨bd2, 0, none⟩) 2 k2) [5, 0] := ((H4.out.2.2.2.2.alloc _).alloc _).mgrew hg
  have H5 : Hid (Rdr v5 w.heap.size b 0 7 7 7 ∧ Below w.heap.size w v5 ∧ Row .u8 5 w.heap.size v5 (.slice (some ⟨bd2, 0, none⟩) 2 k2) [5, 0] ∧ 2 ≤ cl2 ∧ v5.cell? ⟨bl, 1, none⟩ = some (.int .i64 2) ∧ v5.cell? ⟨bl, 7, none⟩ = some (.bool true) ∧ v5.cell? ⟨bl, 8, none⟩ = some (.slice (some ⟨bd2, 0, none⟩) 2 k2)) := ⟨below_blk hb45 (by omega) H4.out.1, H4.out.2.1.trans (hb45.mono (by omega)), hrow.mono (by omega), hc2, e1, e7, e8⟩
  have g1 : v5.cell? ⟨w.heap.size, 1, none⟩ = some (.int .i64 7) := H5.out.1.cell 1
  clear hr hg hb5 hb45 hcells e1 e7 e8 hrow hc2 hbl hbv
  rw [rounds_succ]
  go_upto_region 11 with (fail)
  go_quiet (fail)
  go_wp2
  go_ret3
  exact ⟨bl, cl2, bd2, k2, rfl, H5.out.2.2.2.1, H5.out.2.2.2.2.1, H5.out.2.2.2.2.2.1, H5.out.2.2.2.2.2.2, H5.out.2.2.1, below_drewN _ H5.out.2.1⟩
end Go.Proofs.YtedoghjefdkmaaaGreat
/-
  Der: the page's example of an object identifier, its numbers.
-/
namespace Go.Proofs.YtedoghjefdkmaaaGreat
open Go.RowKit
theorem Tryz.und64 : Tryz.prog.underlying 77 = some (.slice 83) := by kernel_rfl
theorem Tryz.info64 : (Tryz.prog.info? 83).map (fun i => (i.zero, i.size, i.bytes)) = some (some (.int .u64 0), 1, 8) := by kernel_rfl
theorem new64 {w : World} {e : TypeId} (x : Int) : Sl .u64 (w.alloc (.cells #[.int .u64 x] e)) (.slice (some ⟨w.heap.size, 0, none⟩) 1 1) [x] := new_sl [x] (0, 0)
theorem and7_42 : bits .and .u8 42 127 = 42 := by decide +kernel
theorem and7_134 : bits .and .u8 134 127 = 6 := by decide +kernel
theorem and7_72 : bits .and .u8 72 127 = 72 := by decide +kernel
theorem or_42 : bits .or .u64 0 42 = 42 := by decide +kernel
theorem or_6 : bits .or .u64 0 6 = 6 := by decide +kernel
theorem or_840 : bits .or .u64 768 72 = 840 := by decide +kernel
end Go.Proofs.YtedoghjefdkmaaaGreat
/-
  Der: decimal digits appended; the page's example of an object identifier.
-/
namespace Go.Proofs.YtedoghjefdkmaaaGreat
open Go.RowKit
theorem src_49 {w : World} : Src Tryz.prog 1 9 (.string ⟨#[49]⟩) [(49 : Int)].length ([(49 : Int)].map (Value.int .u8)) w := Src.ofString w Tryz.str ⟨#[49]⟩
theorem src_50 {w : World} : Src Tryz.prog 1 9 (.string ⟨#[50]⟩) [(50 : Int)].length ([(50 : Int)].map (Value.int .u8)) w := Src.ofString w Tryz.str ⟨#[50]⟩
end Go.Proofs.YtedoghjefdkmaaaGreat
/-
  Der: the page's example of an object identifier.
-/
namespace Go.Proofs.YtedoghjefdkmaaaGreat
open Go.RowKit
theorem row_str {w : World} {B : Nat} {v : Value} {xs : List Int} {n : Nat} (h : Row .u8 5 B w v xs) (hn : xs.length = n) (h0 : 0 < n) : ∃ b c, v = .slice (some ⟨b, 0, none⟩) n c ∧ Sem.run Tryz.prog (convert 25 9 (.slice (some ⟨b, 0, none⟩) n c)) w = .ok (.string (strOfNums xs)) w := by
  obtain ⟨b, S, rfl, _, hA, hl, ht, _⟩ := h.open n hn h0
  refine ⟨b, _, rfl, run_convert_bytes_arg w _ _ Tryz.und8 Tryz.e8 b 0 n _ xs hn (fun i hi => ?_) _ Tryz.str⟩
  have e : S.getD i 0 = xs.getD i 0 := by
    rw [List.getD_eq_getElem?_getD, List.getD_eq_getElem?_getD, ← ht, List.getElem?_take, if_pos hi]
  rw [Nat.zero_add, hA.cell i (by omega), e]
end Go.Proofs.YtedoghjefdkmaaaGreat
/-
  Der: the page's example of an object identifier laid.
-/
namespace Go.Proofs.YtedoghjefdkmaaaGreat
open Go.RowKit
theorem or_136 : bits .or .u8 8 128 = 136 := by decide +kernel
theorem and_55 : bits .and .u64 1079 127 = 55 := by decide +kernel
set_option maxRecDepth 20000 in
set_option maxHeartbeats 2000000 in
theorem sevens_live {w : World} : Calls Tryz.prog 163 #[.slice none 0 0, .int .u64 1079] w fun e w' => ∃ r, e = .returned r ∧ Row .u8 5 w.heap.size w' r [136, 55] ∧ Below w.heap.size w w' := by
  have o1 := or_136
  have a1 := and_55
  go_enter Tryz.func163, Tryz.ntmps163
  go_wp2_with fail
  refine wp_loop_rounds 2 ?_
  rw [rounds_succ]
  go_wp2_with fail
  rw [rounds_succ]
  go_wp2_with fail
  refine wp_loop_rounds 2 ?_
  rw [rounds_succ]
  go_wp2_with (at_builtin; refine wpList_ap rfl (.tmp 16) (.tmp 22) 25 25 rfl .u8 5 1 Tryz.und8 Tryz.info8 (by decide) w.heap.size _ [] rfl (Row.nil _ _ _ _) _ [136] rfl (src_sl Tryz.und8 (new1 136)) (by decide) (by simp) ?_; intro v1 w1 hr hg)
  have hb1 : Below w.heap.size w w1 := (al1 _).trans (hg.below (Row.nil _ _ w.heap.size _) (by simp))
  have H1 : Hid (Row .u8 5 w.heap.size w1 v1 [136] ∧ Below w.heap.size w w1) := ⟨hr, hb1⟩
  clear hr hg hb1
  rw [rounds_succ]
  go_wp2_with (at_builtin; refine wpList_ap rfl (.tmp 24) (.tmp 28) 25 25 rfl .u8 5 1 Tryz.und8 Tryz.info8 (by decide) w.heap.size _ [136] rfl (H1.out.1.alloc _) _ [55] rfl (src_sl Tryz.und8 (new1 55)) (by decide) (by have := H1.out.2.size; simp; omega) ?_; intro v2 w2 hr hg)
  have hb2 : Below w.heap.size w w2 := (H1.out.2.alloc H1.out.2.size _).trans (hg.below (H1.out.1.alloc _) (by have := H1.out.2.size; simp; omega))
  go_ret
  exact ⟨_, rfl, hr, hb2⟩
abbrev exS : ByteArray := ⟨#[50, 46, 57, 57, 57]⟩
def It (w W : World) (pos : Nat) : Prop := W.heap[w.heap.size]? = some (.stringIter exS pos) ∧ Below w.heap.size w W
theorem It.step {w W : World} {pos : Nat} (h : It w W pos) (pos' : Nat) : It w (W.iterAt w.heap.size exS pos') pos' := ⟨Lib.iterAt_heap W _ exS pos pos' h.1, Lib.below_iterAt h.2 (Nat.le_refl _) _ _⟩
theorem It.below {w W W' : World} {pos : Nat} (h : It w W pos) (hb : Below (w.heap.size + 1) W W') : It w W' pos := ⟨by rw [hb.block _ (by omega)]; exact h.1, h.2.trans (hb.mono (by omega))⟩
theorem It.lt {w W : World} {pos : Nat} (h : It w W pos) : w.heap.size < W.heap.size := (Array.getElem?_eq_some_iff.1 h.1).1
theorem row_iter {k : IntKind} {e : TypeId} {w W : World} {v : Value} {xs : List Int} (pos : Nat) (h : Row k e (w.heap.size + 1) W v xs) : Row k e (w.heap.size + 1) (W.iterAt w.heap.size exS pos) v xs := by
  rcases h with h | ⟨b, S, rfl, h1, hA, h2⟩
  · exact .inl h
  · exact .inr ⟨b, S, rfl, h1, by unfold Arr; rw [Lib.iterAt_other W _ _ exS pos (by omega)]; exact hA, h2⟩
end Go.Proofs.YtedoghjefdkmaaaGreat
/-
  Der: rows of bits.
-/
namespace Go.Proofs.YtedoghjefdkmaaaGreat
open Go.RowKit
/-- Are these bytes a row of bits? -/
def bitsOk (X : List Int) : Bool :=
  if X.length < 2 then decide (X.length = 1) && decide (X.getD 0 0 = 0) else decide (X.getD 0 0 ≤ 7) && decide (X.getD (X.length - 1) 0 % 2 ^ (X.getD 0 0).toNat = 0)
theorem and_1 (x : Int) (h : U8 x) : bits .and .u8 x 1 = x % 2 := by obtain ⟨h0, h1⟩ := h; go_bits2
theorem and_3 (x : Int) (h : U8 x) : bits .and .u8 x 3 = x % 4 := by obtain ⟨h0, h1⟩ := h; go_bits2
theorem and_7 (x : Int) (h : U8 x) : bits .and .u8 x 7 = x % 8 := by obtain ⟨h0, h1⟩ := h; go_bits2
theorem and_15 (x : Int) (h : U8 x) : bits .and .u8 x 15 = x % 16 := by obtain ⟨h0, h1⟩ := h; go_bits2
theorem and_31 (x : Int) (h : U8 x) : bits .and .u8 x 31 = x % 32 := by obtain ⟨h0, h1⟩ := h; go_bits2
theorem and_63 (x : Int) (h : U8 x) : bits .and .u8 x 63 = x % 64 := by obtain ⟨h0, h1⟩ := h; go_bits2
theorem and_127 (x : Int) (h : U8 x) : bits .and .u8 x 127 = x % 128 := by obtain ⟨h0, h1⟩ := h; go_bits2
theorem and_0 (x : Int) : bits .and .u8 x 0 = 0 := by unfold bits; simp; rfl
theorem wrapI (z : Int) (h0 : 0 ≤ z) (h1 : z < 9223372036854775808) : IntKind.i64.wrap z = z := by rw [IntKind.wrap_i64]; omega
/-- What Bits answers. -/
def BitsAns (B : Nat) (w : World) (X : List Int) (e : Ending) : Prop :=
  (bitsOk X = true ∧ ∃ r, e = .returned (.tuple #[r, .int .i64 (X.getD 0 0), .int .i64 0]) ∧ Row .u8 5 B w r (X.drop 1)) ∨ (bitsOk X = false ∧ e = .returned (.tuple #[.slice none 0 0, .int .i64 0, .int .i64 6]))
theorem bitsOk_pos {X : List Int} (h : bitsOk X = true) : 0 < X.length := by
  unfold bitsOk at h
  by_cases h0 : X.length = 0
  · rw [h0] at h; simp at h
  · omega
theorem sl_tail {w : World} {n c : Nat} {X : List Int} {b off : Nat} (hb : b < w.heap.size) (hr : Rd .u8 w b off X) (hn : X.length = n) (h0 : 0 < n) (hc : n ≤ c) : Sl .u8 w (.slice (if c = 1 then some ⟨b, off, none⟩ else some ⟨b, off + 1, none⟩) (n - 1) (c - 1)) (X.drop 1) := by
  have hl : (X.drop 1).length = n - 1 := by rw [List.length_drop, hn]
  refine ⟨_, _, by rw [hl], by omega, ?_⟩
  by_cases h : c = 1
  · exact .inl (List.eq_nil_of_length_eq_zero (by omega))
  · rw [if_neg h]
    refine .inr ⟨b, off + 1, rfl, hb, fun k hk => ?_⟩
    have := hr (1 + k) (by omega)
    rw [Nat.add_assoc, this, List.getD_eq_getElem?_getD, List.getD_eq_getElem?_getD, List.getElem?_drop]
end Go.Proofs.YtedoghjefdkmaaaGreat
/-
  Der: a few bits as a number.
-/
namespace Go.Proofs.YtedoghjefdkmaaaGreat
open Go.RowKit
theorem bits_or_comm (k : IntKind) (x y : Int) : bits .or k x y = bits .or k y x := by unfold bits; simp only []; rw [BitVec.or_comm]
theorem or_hi (s : Nat) (x y : Int) (hx0 : 0 ≤ x) (hx : x * 2 ^ s < 4294967296) (hy0 : 0 ≤ y) (hy : y < 2 ^ s) (hs : s ≤ 32) : bits .or .u32 (x * 2 ^ s) y = x * 2 ^ s + y := by
  obtain ⟨a, rfl⟩ := Int.eq_ofNat_of_zero_le hx0
  obtain ⟨b, rfl⟩ := Int.eq_ofNat_of_zero_le hy0
  have e : ((a * 2 ^ s : Nat) : Int) = (a : Int) * 2 ^ s := by simp
  have hb : b < 2 ^ s := by
    have : ((b : Nat) : Int) < ((2 ^ s : Nat) : Int) := by rw [Int.natCast_pow]; exact hy
    exact Int.ofNat_lt.1 this
  have ha : a * 2 ^ s < 2 ^ 32 := by
    have : ((a * 2 ^ s : Nat) : Int) < ((2 ^ 32 : Nat) : Int) := by rw [e]; exact hx
    exact Int.ofNat_lt.1 this
  have hb2 : b < 2 ^ 32 := Nat.lt_of_lt_of_le hb (Nat.pow_le_pow_right (by decide) hs)
  have h := (bits_nat .u32 32 (by decide) (fun n h₀ h₁ => by rw [IntKind.wrap_u32']; omega) (a * 2 ^ s) b ha hb2).2
  rw [e] at h
  rw [h, Nat.mul_comm a, ← Nat.two_pow_add_eq_or_of_lt hb a, Nat.mul_comm, Int.natCast_add, e]
/-- The number of bytes Y: each turned about, the first one lowest. -/
def flagN (Y : List Int) : Nat → Int
  | 0 => 0
  | i + 1 => flagN Y i + Lib.rev8 (Y.getD i 0) * 2 ^ (8 * i)
theorem rev8_u8 (x : Int) : 0 ≤ Lib.rev8 x ∧ Lib.rev8 x < 256 := by
  unfold Lib.rev8
  have := ((Lib.rev8tab[x.toNat]?).getD 0).toNat_lt
  omega
theorem flagN_lt (Y : List Int) : ∀ i, 0 ≤ flagN Y i ∧ flagN Y i < 2 ^ (8 * i)
  | 0 => by simp [flagN]
  | i + 1 => by
    have h1 := flagN_lt Y i
    have h2 := rev8_u8 (Y.getD i 0)
    have e : (2 : Int) ^ (8 * (i + 1)) = 256 * 2 ^ (8 * i) := by rw [show 8 * (i + 1) = 8 + 8 * i by omega, Int.pow_add]; rfl
    show 0 ≤ flagN Y i + Lib.rev8 (Y.getD i 0) * 2 ^ (8 * i) ∧ flagN Y i + Lib.rev8 (Y.getD i 0) * 2 ^ (8 * i) < _
    rw [e]
    generalize Lib.rev8 (Y.getD i 0) = r at *
    have hp : (0 : Int) < 2 ^ (8 * i) := Int.pow_pos (by decide)
    generalize (2 : Int) ^ (8 * i) = p at *
    have h3 : 0 ≤ r * p := Int.mul_nonneg h2.1 (by omega)
    have h4 : r * p ≤ 255 * p := Int.mul_le_mul_of_nonneg_right (by omega) (by omega)
    omega
def FlagsVal (X : List Int) : Int := if bitsOk X = true ∧ X.length ≤ 5 then flagN (X.drop 1) (X.length - 1) else 0
def FlagsErr (X : List Int) : Int := if bitsOk X = true then (if X.length ≤ 5 then 0 else 3) else 6
end Go.Proofs.YtedoghjefdkmaaaGreat
/-
  Der: the page's examples, all.
-/
namespace Go.Proofs.YtedoghjefdkmaaaGreat
open Go.RowKit
theorem flags_ex : FlagsVal [5, 160] = 5 ∧ FlagsErr [5, 160] = 0 := by decide +kernel
theorem ex_u8 : U8s [5, 160] := by intro x hx; unfold U8; simp at hx; omega
end Go.Proofs.YtedoghjefdkmaaaGreat
/-
  Der: which heads may be.
-/
namespace Go.Proofs.YtedoghjefdkmaaaGreat
open Go.RowKit
def headOk (class_ tag : Int) : Bool := decide (0 ≤ class_ ∧ class_ ≤ 3 ∧ 0 ≤ tag ∧ tag ≤ 268435455 ∧ ¬ (class_ = 0 ∧ tag = 0))
set_option maxHeartbeats 2000000 in
theorem isHead_any {w : World} (c t : Int) : Calls Tryz.prog 147 #[.int .i64 c, .int .i64 t] w fun e w' => e = .returned (.bool (headOk c t)) ∧ w = w' := by
  have HH : Hid (headOk c t = decide (0 ≤ c ∧ c ≤ 3 ∧ 0 ≤ t ∧ t ≤ 268435455 ∧ ¬ (c = 0 ∧ t = 0))) := rfl
  obtain ⟨r, hr⟩ : ∃ r, headOk c t = r := ⟨_, rfl⟩
  rw [hr] at HH ⊢
  clear hr
  by_cases h1 : c < 0
  · have HF : Hid (r = false) := by show _ = _; rw [HH.out]; simp; omega
    go_enter Tryz.func147, Tryz.ntmps147
    go_wp2
    go_ret
    exact ⟨by rw [HF.out]; rfl, rfl⟩
  by_cases h2 : 3 < c
  · have HF : Hid (r = false) := by show _ = _; rw [HH.out]; simp; omega
    go_enter Tryz.func147, Tryz.ntmps147
    go_wp2
    go_ret
    exact ⟨by rw [HF.out]; rfl, rfl⟩
  by_cases h3 : t < 0
  · have HF : Hid (r = false) := by show _ = _; rw [HH.out]; simp; omega
    go_enter Tryz.func147, Tryz.ntmps147
    go_wp2
    go_ret
    exact ⟨by rw [HF.out]; rfl, rfl⟩
  by_cases h4 : 268435455 < t
  · have HF : Hid (r = false) := by show _ = _; rw [HH.out]; simp; omega
    go_enter Tryz.func147, Tryz.ntmps147
    go_wp2
    go_ret
    exact ⟨by rw [HF.out]; rfl, rfl⟩
  by_cases h5 : c = 0
  · subst h5
    by_cases h6 : t = 0
    · subst h6
      have HF : Hid (r = false) := by show _ = _; rw [HH.out]; simp
      go_enter Tryz.func147, Tryz.ntmps147
      go_wp2
      go_ret
      exact ⟨by rw [HF.out]; rfl, rfl⟩
    · have HF : Hid (r = true) := by show _ = _; rw [HH.out]; simp; omega
      have h6b : (t != 0) = true := by simpa using h6
      go_enter Tryz.func147, Tryz.ntmps147
      go_wp2
      go_ret
      exact ⟨by rw [HF.out]; rfl, rfl⟩
  · have HF : Hid (r = true) := by show _ = _; rw [HH.out]; simp; omega
    have h5b : (c != 0) = true := by simpa using h5
    go_enter Tryz.func147, Tryz.ntmps147
    go_wp2
    go_ret
    exact ⟨by rw [HF.out]; rfl, rfl⟩
end Go.Proofs.YtedoghjefdkmaaaGreat
/-
  Der: what reading a row of elements tells, over lists of bytes; no Go text in sight.
-/
namespace Go.Proofs.YtedoghjefdkmaaaGreat
open Go.RowKit
/-- A fault and its place, or a number and where what comes behind it begins. -/
inductive Rs where
  | bad (e : Int) (a : Nat)
  | ok (v : Int) (i : Nat)
def Rs.v : Rs → Int
  | .bad _ _ => 0
  | .ok v _ => v
def Rs.e : Rs → Int
  | .bad e _ => e
  | .ok _ _ => 0
def Rs.at : Rs → Nat
  | .bad _ a => a
  | .ok _ i => i
/-- A long tag from place i on, t being what was read of it. -/
def lngF (M : List Int) : Nat → Nat → Int → Rs
  | 0, _, _ => .bad 2 M.length
  | f + 1, i, t =>
    if t * 128 + M.getD i 0 % 128 = 0 ∨ 268435455 < t * 128 + M.getD i 0 % 128 ∨ (M.getD i 0 < 128 ∧ t * 128 + M.getD i 0 % 128 < 31) then .bad 30 i
    else if M.getD i 0 < 128 then .ok (t * 128 + M.getD i 0 % 128) (i + 1)
    else lngF M f (i + 1) (t * 128 + M.getD i 0 % 128)
def lng (M : List Int) (i : Nat) (t : Int) : Rs := lngF M (M.length - i) i t
theorem lng_end {M : List Int} {i : Nat} {t : Int} (h : M.length ≤ i) : lng M i t = .bad 2 M.length := by
  unfold lng; rw [show M.length - i = 0 by omega]; rfl
theorem lng_step {M : List Int} {i : Nat} {t x t' : Int} (h : i < M.length) (hx : M.getD i 0 = x) (ht : t * 128 + x % 128 = t') :
    lng M i t = if t' = 0 ∨ 268435455 < t' ∨ (x < 128 ∧ t' < 31) then .bad 30 i else if x < 128 then .ok t' (i + 1) else lng M (i + 1) t' := by
  unfold lng; rw [show M.length - i = (M.length - (i + 1)) + 1 by omega, lngF, hx, ht]
/-- The number of k bytes from place i on; of a great one only that it is. -/
def fold8 (M : List Int) (i : Nat) : Nat → Int
  | 0 => 0
  | k + 1 => min (fold8 M i k * 256 + M.getD (i + k) 0) 16777217
theorem fold8_bd {M : List Int} (hM : U8s M) (i : Nat) : ∀ k, 0 ≤ fold8 M i k ∧ fold8 M i k ≤ 16777217
  | 0 => by simp [fold8]
  | k + 1 => by
    have := fold8_bd hM i k
    have h8 := hM.at (i + k)
    unfold U8 at h8
    show 0 ≤ min (fold8 M i k * 256 + M.getD (i + k) 0) 16777217 ∧ min (fold8 M i k * 256 + M.getD (i + k) 0) 16777217 ≤ 16777217
    omega
def lenS (M : List Int) (i : Nat) : Rs :=
  if M.length ≤ i then .bad 2 M.length
  else if M.getD i 0 = 128 ∨ M.getD i 0 = 255 then .bad 31 i
  else if M.getD i 0 < 128 then (if (M.length : Int) < i + 1 + M.getD i 0 then .bad 31 i else .ok (M.getD i 0) (i + 1))
  else if M.length < i + 1 + (M.getD i 0 - 128).toNat then .bad 2 M.length
  else if fold8 M (i + 1) (M.getD i 0 - 128).toNat < 128 ∨ M.getD (i + 1) 0 = 0 then .bad 31 i
  else if (M.length : Int) - (i + 1 + (M.getD i 0 - 128).toNat : Nat) < fold8 M (i + 1) (M.getD i 0 - 128).toNat then .bad 31 i
  else .ok (fold8 M (i + 1) (M.getD i 0 - 128).toNat) (i + 1 + (M.getD i 0 - 128).toNat)
def tagS (M : List Int) (p : Nat) : Rs :=
  if M.getD p 0 % 32 = 31 then lng M (p + 1) 0
  else if M.getD p 0 % 32 = 0 ∧ M.getD p 0 < 64 then .bad 30 p
  else .ok (M.getD p 0 % 32) (p + 1)
inductive Es where
  | bad (e : Int) (a : Nat)
  | ok (t : Int) (j E : Nat)
def elemS (M : List Int) (p : Nat) : Es :=
  match tagS M p with
  | .bad e a => .bad e a
  | .ok t i => match lenS M i with
    | .bad e a => .bad e a
    | .ok l j => .ok t j (j + l.toNat)
/-- An element: class, tag, made of others or not, its data, all its bytes. -/
structure El where
  cl : Int
  tg : Int
  co : Bool
  d : List Int
  r : List Int
def elAt (M : List Int) (p : Nat) (t : Int) (j E : Nat) : El := ⟨M.getD p 0 / 64, t, decide (M.getD p 0 / 32 % 2 = 1), (M.drop j).take (E - j), (M.drop p).take (E - p)⟩
theorem lng_ok {M : List Int} : ∀ f i t, M.length - i = f → ∀ v j, lng M i t = .ok v j → i < j ∧ j ≤ M.length ∧ 31 ≤ v ∧ v ≤ 268435455
  | 0, i, t, hf, v, j, h => by rw [lng_end (by omega)] at h; cases h
  | f + 1, i, t, hf, v, j, h => by
    rw [lng_step (by omega) rfl rfl] at h
    split at h
    · cases h
    · rename_i h1
      split at h
      · cases h; omega
      · have := lng_ok f (i + 1) _ (by omega) v j h; omega
theorem lng_bad {M : List Int} : ∀ f i t, M.length - i = f → i ≤ M.length → ∀ e a, lng M i t = .bad e a → i ≤ a ∧ a ≤ M.length ∧ (e = 2 ∨ e = 30)
  | 0, i, t, hf, hi, e, a, h => by rw [lng_end (by omega)] at h; cases h; omega
  | f + 1, i, t, hf, hi, e, a, h => by
    rw [lng_step (by omega) rfl rfl] at h
    split at h
    · cases h; omega
    · split at h
      · cases h
      · have := lng_bad f (i + 1) _ (by omega) (by omega) e a h; omega
theorem lenS_ok {M : List Int} (hM : U8s M) {i : Nat} {v : Int} {j : Nat} (h : lenS M i = .ok v j) : i < j ∧ 0 ≤ v ∧ j + v ≤ M.length ∧ v ≤ 16777216 + 1 := by
  have hx := hM.at i
  unfold U8 at hx
  have hf := fold8_bd hM (i + 1) (M.getD i 0 - 128).toNat
  unfold lenS at h
  split at h
  · cases h
  split at h
  · cases h
  split at h
  · split at h
    · cases h
    · cases h; omega
  split at h
  · cases h
  split at h
  · cases h
  split at h
  · cases h
  · cases h; omega
theorem lenS_bad {M : List Int} {i : Nat} {e : Int} {a : Nat} (hi : i ≤ M.length) (h : lenS M i = .bad e a) : i ≤ a ∧ a ≤ M.length ∧ (e = 2 ∨ e = 31) := by
  unfold lenS at h
  split at h
  · cases h; omega
  split at h
  · cases h; omega
  split at h
  · split at h
    · cases h; omega
    · cases h
  split at h
  · cases h; omega
  split at h
  · cases h; omega
  split at h
  · cases h; omega
  · cases h
theorem tagS_ok {M : List Int} (hM : U8s M) {p : Nat} (hp : p < M.length) {v : Int} {j : Nat} (h : tagS M p = .ok v j) : p < j ∧ j ≤ M.length ∧ 0 ≤ v ∧ v ≤ 268435455 := by
  have hx := hM.at p
  unfold U8 at hx
  unfold tagS at h
  split at h
  · have := lng_ok _ _ _ rfl v j h; omega
  split at h
  · cases h
  · cases h; omega
theorem tagS_bad {M : List Int} {p : Nat} (hp : p < M.length) {e : Int} {a : Nat} (h : tagS M p = .bad e a) : p ≤ a ∧ a ≤ M.length ∧ (e = 2 ∨ e = 30) := by
  unfold tagS at h
  split at h
  · have := lng_bad _ _ _ rfl (by omega) e a h; omega
  split at h
  · cases h; omega
  · cases h
theorem elemS_ok {M : List Int} (hM : U8s M) {p : Nat} (hp : p < M.length) {t : Int} {j E : Nat} (h : elemS M p = .ok t j E) : p < j ∧ j ≤ E ∧ E ≤ M.length ∧ 0 ≤ t ∧ t ≤ 268435455 := by
  unfold elemS at h
  split at h
  · cases h
  · rename_i t' i ht
    have h1 := tagS_ok hM hp ht
    split at h
    · cases h
    · rename_i l j' hl
      have h2 := lenS_ok hM hl
      cases h; omega
theorem elemS_bad {M : List Int} (hM : U8s M) {p : Nat} (hp : p < M.length) {e : Int} {a : Nat} (h : elemS M p = .bad e a) : p ≤ a ∧ a ≤ M.length ∧ (e = 2 ∨ e = 30 ∨ e = 31) := by
  unfold elemS at h
  split at h
  · rename_i e' a' ht
    have h1 := tagS_bad hp ht
    cases h; omega
  · rename_i t' i ht
    have h1 := tagS_ok hM hp ht
    split at h
    · rename_i e' a' hl
      have h2 := lenS_bad (by omega) hl
      cases h; omega
    · cases h
/-- A row of elements, or the first fault and its place. -/
inductive Sp where
  | bad (e : Int) (a : Nat)
  | ok (L : List El)
def spF (M : List Int) : Nat → Nat → List El → Sp
  | 0, _, L => .ok L
  | f + 1, p, L =>
    if M.length ≤ p then .ok L
    else if 65536 ≤ L.length then .bad 4 p
    else match elemS M p with
      | .bad e a => .bad e a
      | .ok t j E => spF M f E (L ++ [elAt M p t j E])
theorem spF_fuel {M : List Int} (hM : U8s M) : ∀ f g p L, M.length ≤ p + f → M.length ≤ p + g → spF M f p L = spF M g p L
  | 0, 0, _, _, _, _ => rfl
  | 0, g + 1, p, L, h, _ => by rw [spF, spF, if_pos (by omega)]
  | f + 1, 0, p, L, _, h => by rw [spF, spF, if_pos (by omega)]
  | f + 1, g + 1, p, L, h, h' => by
    rw [spF, spF]
    by_cases h1 : M.length ≤ p
    · rw [if_pos h1, if_pos h1]
    rw [if_neg h1, if_neg h1]
    split
    · rfl
    split
    · rfl
    · rename_i t j E he
      have h2 := elemS_ok hM (by omega) he
      exact spF_fuel hM f g E _ (by omega) (by omega)
def spl (M : List Int) (p : Nat) (L : List El) : Sp := spF M (M.length - p) p L
def splitS (M : List Int) : Sp := if 16777216 < M.length then .bad 3 0 else spl M 0 []
theorem spl_end {M : List Int} {p : Nat} {L : List El} (h : M.length ≤ p) : spl M p L = .ok L := by
  unfold spl; rw [show M.length - p = 0 by omega, spF]
theorem spl_many {M : List Int} {p : Nat} {L : List El} (h : p < M.length) (hL : 65536 ≤ L.length) : spl M p L = .bad 4 p := by
  unfold spl; rw [show M.length - p = (M.length - p - 1) + 1 by omega, spF, if_neg (by omega), if_pos hL]
theorem spl_bad {M : List Int} {p : Nat} {L : List El} (h : p < M.length) (hL : L.length < 65536) {e : Int} {a : Nat} (he : elemS M p = .bad e a) : spl M p L = .bad e a := by
  unfold spl; rw [show M.length - p = (M.length - p - 1) + 1 by omega, spF, if_neg (by omega), if_neg (by omega), he]
theorem spl_ok {M : List Int} (hM : U8s M) {p : Nat} {L : List El} (h : p < M.length) (hL : L.length < 65536) {t : Int} {j E : Nat} (he : elemS M p = .ok t j E) : spl M p L = spl M E (L ++ [elAt M p t j E]) := by
  have h2 := elemS_ok hM h he
  unfold spl; rw [show M.length - p = (M.length - p - 1) + 1 by omega, spF, if_neg (by omega), if_neg (by omega), he]
  exact spF_fuel hM _ _ _ _ (by omega) (by omega)
/-- What a few bytes of a length tell, read from place i on. -/
def lenL (M : List Int) (i k : Nat) : Rs := if M.length < i + k then .bad 2 M.length else .ok (fold8 M i k) (i + k)
theorem fold8_at {M : List Int} (i k : Nat) {x : Int} (hx : M.getD (i + k) 0 = x) : fold8 M i (k + 1) = min (fold8 M i k * 256 + x) 16777217 := by
  rw [← hx]; rfl
end Go.Proofs.YtedoghjefdkmaaaGreat
/-
  Der: the reader: the end, a fault, a long tag.
-/
namespace Go.Proofs.YtedoghjefdkmaaaGreat
open Go.RowKit
def posOf : Option Value → Nat
  | some v => (intOf v).toNat
  | none => 0
theorem Rdr.pos {w : World} {g b off n c p : Nat} (h : Rdr w g b off n c p) : posOf (w.cell? ⟨g, 1, none⟩) = p := by
  have c1 : w.cell? ⟨g, 1, none⟩ = some (.int .i64 p) := h.cell 1
  rw [c1]; simp [posOf, intOf]
theorem or_i64 (s : Nat) (x y : Int) (hx0 : 0 ≤ x) (hx : x * 2 ^ s < 9223372036854775808) (hy0 : 0 ≤ y) (hy : y < 2 ^ s) (hs : s ≤ 32) : bits .or .i64 (x * 2 ^ s) y = x * 2 ^ s + y := by
  obtain ⟨a, rfl⟩ := Int.eq_ofNat_of_zero_le hx0
  obtain ⟨b, rfl⟩ := Int.eq_ofNat_of_zero_le hy0
  have e : ((a * 2 ^ s : Nat) : Int) = (a : Int) * 2 ^ s := by simp
  have hb : b < 2 ^ s := by
    have : ((b : Nat) : Int) < ((2 ^ s : Nat) : Int) := by rw [Int.natCast_pow]; exact hy
    exact Int.ofNat_lt.1 this
  have ha : a * 2 ^ s < 2 ^ 63 := by
    have : ((a * 2 ^ s : Nat) : Int) < ((2 ^ 63 : Nat) : Int) := by rw [e]; exact hx
    exact Int.ofNat_lt.1 this
  have hb2 : b < 2 ^ 63 := Nat.lt_of_lt_of_le hb (Nat.pow_le_pow_right (by decide) (by omega))
  have h := (bits_nat .i64 63 (by decide) (fun n h₀ h₁ => by rw [IntKind.wrap_i64]; omega) (a * 2 ^ s) b ha hb2).2
  rw [e] at h
  rw [h, Nat.mul_comm a, ← Nat.two_pow_add_eq_or_of_lt hb a, Nat.mul_comm, Int.natCast_add, e]
set_option maxHeartbeats 1000000 in
theorem next_end {w : World} (g b off n c : Nat) (hR : Rdr w g b off n c n) :
    Calls Tryz.prog 159 #[.pointer (some ⟨g, 0, none⟩)] w fun e w' => e = .returned (.tuple #[.int .u8 0, .int .i64 2]) ∧ Upd w w' g ∧ Rdr w' g b off n c n := by
  have c0 : w.cell? ⟨g, 0, none⟩ = some (.slice (some ⟨b, off, none⟩) n c) := hR.cell 0
  have c1 : w.cell? ⟨g, 1, none⟩ = some (.int .i64 n) := hR.cell 1
  have HR : Hid (Rdr w g b off n c n) := hR
  clear hR
  go_enter Tryz.func159, Tryz.ntmps159
  go_upto_region 1 with (fail)
  go_quiet (fail)
  go_wp2
  go_ret2
  exact ⟨rfl, ⟨rfl, rfl, rfl, Nat.le_refl _, fun _ _ _ => rfl⟩, HR.out.drewN _⟩
set_option maxHeartbeats 1000000 in
theorem fault_any {w : World} (g b off n c p a : Nat) (x : Int) (hR : Rdr w g b off n c p) :
    Calls Tryz.prog 161 #[.pointer (some ⟨g, 0, none⟩), .int .i64 x, .int .i64 a] w fun e w' => e = .returned (.int .i64 x) ∧ Upd w w' g ∧ Rdr w' g b off n c a := by
  have c1 : w.cell? ⟨g, 1, none⟩ = some (.int .i64 p) := hR.cell 1
  have f1 := hR.frozen 1
  have HR : Hid (Rdr w g b off n c p) := hR
  clear hR
  go_enter Tryz.func161, Tryz.ntmps161
  go_wp2
  go_ret
  exact ⟨rfl, Upd.set _ _ _ _, HR.out.set 1 (.int .i64 a)⟩
set_option maxRecDepth 20000 in
set_option maxHeartbeats 4000000 in
theorem longTag_any {w : World} (g b off n c p : Nat) (M : List Int) (hR : Rdr w g b off n c p) (hM : Rd .u8 w b off M) (uM : U8s M) (hMl : M.length = n) (hn : n ≤ 16777216) (hb : b < w.heap.size) (hbg : b ≠ g) (hp : p ≤ n) :
    Calls Tryz.prog 160 #[.pointer (some ⟨g, 0, none⟩)] w fun e w' => e = .returned (.tuple #[.int .i64 (lng M p 0).v, .int .i64 (lng M p 0).e]) ∧ Upd w w' g ∧ Rdr w' g b off n c (lng M p 0).at := by
  have HX : Hid (Rdr w g b off n c p ∧ Rd .u8 w b off M ∧ U8s M ∧ M.length = n) := ⟨hR, hM, uM, hMl⟩
  obtain ⟨O, hO⟩ : ∃ O, lng M p 0 = O := ⟨_, rfl⟩
  have HO : Hid (lng M p 0 = O) := hO
  rw [hO]
  clear hR hM uM hMl hO
  go_enter Tryz.func160, Tryz.ntmps160
  go_wp2_with fail
  go_loopw [4] (fun tv wr => ∃ (i : Nat) (t : Int), tv = .int .i64 t ∧ i ≤ n ∧ 0 ≤ t ∧ t ≤ 268435455 ∧ Rdr wr g b off n c i ∧ Upd w wr g ∧ lng M i t = O) (fun _ wr => n - posOf (wr.cell? ⟨g, 1, none⟩))
  case atStart => exact ⟨p, 0, rfl, hp, by decide, by decide, HX.out.1, Upd.refl _ _, HO.out⟩
  case round =>
    obtain ⟨i, t, rfl, hi, t0, t1, hr, hu, hl⟩ := hrel
    have H1 : Hid (Rdr wr g b off n c i ∧ Upd w wr g ∧ lng M i t = O) := ⟨hr, hu, hl⟩
    clear hr hu hl
    by_cases hlt : i < n
    · obtain ⟨x, hx⟩ : ∃ x, M.getD i 0 = x := ⟨_, rfl⟩
      have hxu := HX.out.2.2.1.at i
      rw [hx] at hxu
      have HU : Hid (U8 x) := hxu
      obtain ⟨t', ht'⟩ : ∃ t', t * 128 + x % 128 = t' := ⟨_, rfl⟩
      have HS : Hid (O = if t' = 0 ∨ 268435455 < t' ∨ (x < 128 ∧ t' < 31) then .bad 30 i else if x < 128 then .ok t' (i + 1) else lng M (i + 1) t') := by
        show _ = _
        rw [← H1.out.2.2]
        exact lng_step (by have := HX.out.2.2.2; omega) hx ht'
      have e1 := and_127 x hxu
      have e2 := or_i64 7 t (x % 128) t0 (by omega) (by omega) (by omega) (by decide)
      rw [show t * 2 ^ 7 = t * 128 from rfl, ht'] at e2
      have x0 : 0 ≤ x % 128 := by omega
      have x1 : x % 128 ≤ 127 := by omega
      obtain ⟨y, hy⟩ : ∃ y, x % 128 = y := ⟨_, rfl⟩
      rw [hy] at e1 e2 x0 x1
      have HT : Hid (0 ≤ t' ∧ t * 128 + y = t' ∧ t' ≤ 34359738367) := ⟨by omega, by omega, by omega⟩
      clear hxu ht' hy
      go_wp2_with fail
      refine (next_any g b off n c i x H1.out.1 hlt hn ?_).mono ?_
      · rw [H1.out.2.1.rd hb HX.out.2.1 hbg i (by have := HX.out.2.2.2; omega), hx]
      rintro e w1 ⟨rfl, hu, hr⟩
      obtain ⟨i1, hi1⟩ : ∃ i1, i + 1 = i1 := ⟨_, rfl⟩
      rw [hi1] at hr
      have H2 : Hid (Rdr w1 g b off n c i1 ∧ Upd w w1 g ∧ i + 1 = i1) := ⟨hr, H1.out.2.1.trans hu, hi1⟩
      have d1 : w1.cell? ⟨g, 1, none⟩ = some (.int .i64 (i1 : Int)) := hr.cell 1
      have d2 : (i1 : Int) - 1 = (i : Int) := by omega
      have d3 : i1 ≤ n := by omega
      clear hu hr hx hi1
      have bad : Hid (t' = 0 ∨ 268435455 < t' ∨ (x < 128 ∧ t' < 31) → O = .bad 30 i) := by
        intro h; rw [HS.out, if_pos h]
      have u0 := HU.out.1
      have u1 := HU.out.2
      by_cases q1 : t' = 0
      · subst q1
        go_wp2_with (go_at_call 161; refine (fault_any g b off n c i1 i 30 H2.out.1).mono ?_; rintro e w2 ⟨rfl, hu2, hr2⟩)
        go_ret2
        rw [bad.out (.inl (by simp))]
        exact ⟨rfl, H2.out.2.1.trans hu2, hr2⟩
      have q1b : (t' == 0) = false := by simpa using q1
      by_cases q2 : 268435455 < t'
      · go_wp2_with (go_at_call 161; refine (fault_any g b off n c i1 i 30 H2.out.1).mono ?_; rintro e w2 ⟨rfl, hu2, hr2⟩)
        go_ret2
        rw [bad.out (.inr (.inl q2))]
        exact ⟨rfl, H2.out.2.1.trans hu2, hr2⟩
      by_cases q3 : x < 128
      · by_cases q4 : t' < 31
        · go_wp2_with (go_at_call 161; refine (fault_any g b off n c i1 i 30 H2.out.1).mono ?_; rintro e w2 ⟨rfl, hu2, hr2⟩)
          go_ret2
          rw [bad.out (.inr (.inr ⟨q3, q4⟩))]
          exact ⟨rfl, H2.out.2.1.trans hu2, hr2⟩
        · go_wp2
          go_ret2
          have h1 := HS.out
          rw [if_neg (by omega), if_pos q3, H2.out.2.2] at h1
          subst h1
          exact ⟨rfl, H2.out.2.1, H2.out.1⟩
      · go_wp2
        go_roundw
        case rel =>
          refine ⟨i1, t', rfl, d3, HT.out.1, by omega, H2.out.1, H2.out.2.1, ?_⟩
          have h1 := HS.out
          rw [if_neg (by omega), if_neg (by omega), H2.out.2.2] at h1
          exact h1.symm
        case measure => rw [H2.out.1.pos, H1.out.1.pos]; have := H2.out.2.2; omega
    · obtain rfl : i = n := by omega
      go_wp2_with fail
      refine (next_end g b off i c H1.out.1).mono ?_
      rintro e w1 ⟨rfl, hu, hr⟩
      have H2 : Hid (Rdr w1 g b off i c i ∧ Upd w w1 g) := ⟨hr, H1.out.2.1.trans hu⟩
      clear hu hr
      go_wp2
      go_ret2
      have := H1.out.2.2
      rw [lng_end (by have := HX.out.2.2.2; omega)] at this
      subst this
      refine ⟨rfl, H2.out.2, ?_⟩
      have := H2.out.1
      rw [← HX.out.2.2.2] at this ⊢
      exact this
end Go.Proofs.YtedoghjefdkmaaaGreat
