/-
  Der: decimal digits appended; the page's example of an object identifier.
-/
import Derived.Test.YtndcpjnfdgojkaaDoorE7
import Derived.Test.YtndcpjnfdgojkaaDoorE6
import Derived.Laws.BytesArg
namespace Go.Proofs.YtndcpjnfdgojkaaDoor
open Go.RowKit
theorem src_49 {w : World} : Src Tryd.prog 1 9 (.string ⟨#[49]⟩) [(49 : Int)].length ([(49 : Int)].map (Value.int .u8)) w := Src.ofString w Tryd.str ⟨#[49]⟩
theorem src_50 {w : World} : Src Tryd.prog 1 9 (.string ⟨#[50]⟩) [(50 : Int)].length ([(50 : Int)].map (Value.int .u8)) w := Src.ofString w Tryd.str ⟨#[50]⟩
set_option maxHeartbeats 1000000 in
theorem AppI_1 {w : World} (v : Value) (B n : Nat) (X : List Int) (hX : Row .u8 5 B w v X) (hn : X.length = n) (hl : n ≤ 1000) (hB : B ≤ w.heap.size) :
    Calls Tryd.prog 64 #[v, .int .u64 1, .int .i64 10] w fun e w' => ∃ r, e = .returned r ∧ Row .u8 5 B w' r (X ++ [49]) ∧ Below B w w' := by
  obtain ⟨a, c, hv⟩ := hX.ne
  rw [hn] at hv
  subst hv
  have HX : Hid (Row .u8 5 B w (.slice a n c) X ∧ X.length = n) := ⟨hX, hn⟩
  clear hX hn
  go_enter Tryd.func64, Tryd.ntmps64
  go_wp2_with (first
    | (go_at_call 71; refine small_1.mono ?_; rintro e w' ⟨rfl, rfl⟩)
    | (at_builtin; refine wpList_ap rfl (.tmp 13) (.tmp 16) 22 9 rfl .u8 5 1 Tryd.und8 Tryd.info8 (by decide) B _ X rfl HX.out.1 _ [49] rfl src_49 (by have := HX.out.2; simp; omega) hB ?_; intro v1 w1 hr hg))
  have hb := hg.below HX.out.1 hB
  go_ret
  exact ⟨_, rfl, hr, hb⟩
set_option maxHeartbeats 1000000 in
theorem AppI_2 {w : World} (v : Value) (B n : Nat) (X : List Int) (hX : Row .u8 5 B w v X) (hn : X.length = n) (hl : n ≤ 1000) (hB : B ≤ w.heap.size) :
    Calls Tryd.prog 64 #[v, .int .u64 2, .int .i64 10] w fun e w' => ∃ r, e = .returned r ∧ Row .u8 5 B w' r (X ++ [50]) ∧ Below B w w' := by
  obtain ⟨a, c, hv⟩ := hX.ne
  rw [hn] at hv
  subst hv
  have HX : Hid (Row .u8 5 B w (.slice a n c) X ∧ X.length = n) := ⟨hX, hn⟩
  clear hX hn
  go_enter Tryd.func64, Tryd.ntmps64
  go_wp2_with (first
    | (go_at_call 71; refine small_2.mono ?_; rintro e w' ⟨rfl, rfl⟩)
    | (at_builtin; refine wpList_ap rfl (.tmp 13) (.tmp 16) 22 9 rfl .u8 5 1 Tryd.und8 Tryd.info8 (by decide) B _ X rfl HX.out.1 _ [50] rfl src_50 (by have := HX.out.2; simp; omega) hB ?_; intro v1 w1 hr hg))
  have hb := hg.below HX.out.1 hB
  go_ret
  exact ⟨_, rfl, hr, hb⟩
set_option maxRecDepth 20000 in
set_option maxHeartbeats 2000000 in
theorem AppI_840 {w : World} (v : Value) (B n : Nat) (X : List Int) (hT : Tab w) (hX : Row .u8 5 B w v X) (hn : X.length = n) (hl : n ≤ 1000) (hB : B ≤ w.heap.size) :
    Calls Tryd.prog 64 #[v, .int .u64 840, .int .i64 10] w fun e w' => ∃ r, e = .returned r ∧ Row .u8 5 B w' r (X ++ [56, 52, 48]) ∧ Below B w w' := by
  obtain ⟨a, c, hv⟩ := hX.ne
  rw [hn] at hv
  subst hv
  have HX : Hid (Row .u8 5 B w (.slice a n c) X ∧ X.length = n ∧ Tab w) := ⟨hX, hn, hT⟩
  clear hX hn hT
  go_enter Tryd.func64, Tryd.ntmps64
  go_wp2_with (go_at_call 72; refine (numDigits_840 (HX.out.2.2.below (al1 _))).mono ?_; rintro e w' ⟨rfl, rfl⟩)
  refine (format_840 w.heap.size 24 111 (List.replicate 24 (Value.int .u8 0)) (Blk.new _ w _) (by simp)).mono ?_
  rintro e w1 ⟨⟨u, rfl⟩, hu, c0, c1, c2⟩
  have hbw : Below w.heap.size w w1 := hu.below (al1 _) (al1 _).size (Nat.le_refl _)
  have hlt : w.heap.size < w1.heap.size := Nat.lt_of_lt_of_le (by simp) hu.size
  have hS : Sl .u8 w1 (.slice (some ⟨w.heap.size, 0, none⟩) 3 24) [56, 52, 48] := by
    refine ⟨_, _, rfl, by simp, .inr ⟨w.heap.size, 0, rfl, hlt, fun i hi => ?_⟩⟩
    have : i = 0 ∨ i = 1 ∨ i = 2 := by simp at hi; omega
    rcases this with rfl | rfl | rfl <;> assumption
  have H1 : Hid (Below w.heap.size w w1 ∧ Sl .u8 w1 (.slice (some ⟨w.heap.size, 0, none⟩) 3 24) [56, 52, 48]) := ⟨hbw, hS⟩
  clear hu c0 c1 c2 hS hbw
  go_wp2_with (at_builtin; refine wpList_ap rfl (.tmp 24) (.tmp 26) 22 22 rfl .u8 5 1 Tryd.und8 Tryd.info8 (by decide) B _ X rfl (HX.out.1.below H1.out.1) _ [56, 52, 48] rfl (src_sl Tryd.und8 H1.out.2) (by have := HX.out.2.1; simp; omega) (Nat.le_trans hB H1.out.1.size) ?_; intro v1 w2 hr hg)
  have hb := hg.below (HX.out.1.below H1.out.1) (Nat.le_trans hB H1.out.1.size)
  go_ret
  exact ⟨_, rfl, hr, (H1.out.1.mono hB).trans hb⟩
end Go.Proofs.YtndcpjnfdgojkaaDoor
