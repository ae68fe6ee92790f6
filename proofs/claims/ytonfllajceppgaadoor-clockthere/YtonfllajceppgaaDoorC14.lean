/-
  Clock: the digits of the page's example.
-/
import Derived.Test.YtonfllajceppgaaDoorC13
import Derived.LoopN
namespace Go.Proofs.YtonfllajceppgaaDoor
open Go.RowKit
def pow10L : List Int := [1, 10, 100, 1000, 10000, 100000, 1000000, 10000000, 100000000, 1000000000, 10000000000, 100000000000, 1000000000000, 10000000000000, 100000000000000, 1000000000000000, 10000000000000000, 100000000000000000, 1000000000000000000, 10000000000000000000]
/-- What is asked of the package's tables. -/
structure Tab (w : World) : Prop where
  size : 1 < w.heap.size
  rd : Rd .u64 w 1 0 pow10L
theorem Tab.below {w w' : World} (h : Tab w) (hb : Below w.heap.size w w') : Tab w' := ⟨Nat.lt_of_lt_of_le h.size hb.size, below_rd hb h.size h.rd⟩
set_option maxRecDepth 1000000 in
set_option maxHeartbeats 2000000 in
theorem len64_c {w : World} : Calls Tryd.prog 79 #[.int .u64 19700101000000] w fun e w' => e = .returned (.int .i64 45) ∧ w = w' := by
  go_enter Tryd.func79, Tryd.ntmps79
  go_wp2
  go_ret
  refine ⟨?_, rfl⟩
  kernel_rfl
theorem log10_c {w : World} : Calls Tryd.prog 78 #[.int .i64 45] w fun e w' => e = .returned (.int .i64 13) ∧ w = w' := by
  go_enter Tryd.func78, Tryd.ntmps78
  go_wp2
  go_ret
  exact ⟨rfl, rfl⟩
theorem bool2_t {w : World} : Calls Tryd.prog 80 #[.bool true] w fun e w' => e = .returned (.int .i64 1) ∧ w = w' := by
  go_enter Tryd.func80, Tryd.ntmps80
  go_wp2
  go_ret
  exact ⟨rfl, rfl⟩
theorem numDigits_c {w : World} (hT : Tab w) : Calls Tryd.prog 66 #[.int .u64 19700101000000] w fun e w' => e = .returned (.int .i64 14) ∧ w = w' := by
  have h3 : w.cell? ⟨1, 13, none⟩ = some (.int .u64 10000000000000) := hT.rd 13 (by decide)
  clear hT
  go_enter Tryd.func66, Tryd.ntmps66
  go_wp2_with (first
    | (go_at_call 79; refine len64_c.mono ?_; rintro e w' ⟨rfl, rfl⟩)
    | (go_at_call 78; refine log10_c.mono ?_; rintro e w' ⟨rfl, rfl⟩)
    | (go_at_call 80; refine bool2_t.mono ?_; rintro e w' ⟨rfl, rfl⟩))
  go_ret
  exact ⟨rfl, rfl⟩
def fb0 : List Value := [.int .u8 0, .int .u8 0, .int .u8 0, .int .u8 0, .int .u8 0, .int .u8 0, .int .u8 0, .int .u8 0, .int .u8 0, .int .u8 0, .int .u8 0, .int .u8 0, .int .u8 0, .int .u8 0, .int .u8 0, .int .u8 0, .int .u8 0, .int .u8 0, .int .u8 0, .int .u8 0, .int .u8 0, .int .u8 0, .int .u8 0, .int .u8 0]
def fb1 : List Value := [.int .u8 0, .int .u8 0, .int .u8 0, .int .u8 0, .int .u8 0, .int .u8 0, .int .u8 0, .int .u8 0, .int .u8 0, .int .u8 0, .int .u8 0, .int .u8 0, .int .u8 0, .int .u8 48, .int .u8 48, .int .u8 0, .int .u8 0, .int .u8 0, .int .u8 0, .int .u8 0, .int .u8 0, .int .u8 0, .int .u8 0, .int .u8 0]
def fb2 : List Value := [.int .u8 0, .int .u8 0, .int .u8 0, .int .u8 0, .int .u8 0, .int .u8 0, .int .u8 0, .int .u8 0, .int .u8 0, .int .u8 0, .int .u8 0, .int .u8 48, .int .u8 48, .int .u8 48, .int .u8 48, .int .u8 0, .int .u8 0, .int .u8 0, .int .u8 0, .int .u8 0, .int .u8 0, .int .u8 0, .int .u8 0, .int .u8 0]
def fb3 : List Value := [.int .u8 0, .int .u8 0, .int .u8 0, .int .u8 0, .int .u8 0, .int .u8 0, .int .u8 0, .int .u8 0, .int .u8 0, .int .u8 48, .int .u8 48, .int .u8 48, .int .u8 48, .int .u8 48, .int .u8 48, .int .u8 0, .int .u8 0, .int .u8 0, .int .u8 0, .int .u8 0, .int .u8 0, .int .u8 0, .int .u8 0, .int .u8 0]
def fb4 : List Value := [.int .u8 0, .int .u8 0, .int .u8 0, .int .u8 0, .int .u8 0, .int .u8 0, .int .u8 0, .int .u8 48, .int .u8 49, .int .u8 48, .int .u8 48, .int .u8 48, .int .u8 48, .int .u8 48, .int .u8 48, .int .u8 0, .int .u8 0, .int .u8 0, .int .u8 0, .int .u8 0, .int .u8 0, .int .u8 0, .int .u8 0, .int .u8 0]
def fb5 : List Value := [.int .u8 0, .int .u8 0, .int .u8 0, .int .u8 0, .int .u8 0, .int .u8 48, .int .u8 49, .int .u8 48, .int .u8 49, .int .u8 48, .int .u8 48, .int .u8 48, .int .u8 48, .int .u8 48, .int .u8 48, .int .u8 0, .int .u8 0, .int .u8 0, .int .u8 0, .int .u8 0, .int .u8 0, .int .u8 0, .int .u8 0, .int .u8 0]
def fb6 : List Value := [.int .u8 0, .int .u8 0, .int .u8 0, .int .u8 55, .int .u8 48, .int .u8 48, .int .u8 49, .int .u8 48, .int .u8 49, .int .u8 48, .int .u8 48, .int .u8 48, .int .u8 48, .int .u8 48, .int .u8 48, .int .u8 0, .int .u8 0, .int .u8 0, .int .u8 0, .int .u8 0, .int .u8 0, .int .u8 0, .int .u8 0, .int .u8 0]
def fb7 : List Value := [.int .u8 0, .int .u8 49, .int .u8 57, .int .u8 55, .int .u8 48, .int .u8 48, .int .u8 49, .int .u8 48, .int .u8 49, .int .u8 48, .int .u8 48, .int .u8 48, .int .u8 48, .int .u8 48, .int .u8 48, .int .u8 0, .int .u8 0, .int .u8 0, .int .u8 0, .int .u8 0, .int .u8 0, .int .u8 0, .int .u8 0, .int .u8 0]
set_option maxRecDepth 1000000 in
set_option maxHeartbeats 8000000 in
theorem format_c {w : World} (b c : Nat) (hB : Blk 101 w b fb0) :
    Calls Tryd.prog 67 #[.slice (some ⟨b, 1, none⟩) 14 c, .int .u64 19700101000000] w fun e w' => (∃ v, e = .returned v) ∧ Upd w w' b ∧ Blk 101 w' b fb7 := by
  have H0 : Hid (Upd w w b ∧ Blk 101 w b fb0) := ⟨Upd.refl _ _, hB⟩
  clear hB
  have c14 : w.cell? ⟨b, 14, none⟩ = some (.int .u8 0) := H0.out.2.cell 14
  have c13 : w.cell? ⟨b, 13, none⟩ = some (.int .u8 0) := H0.out.2.cell 13
  have f14 := H0.out.2.frozen 14
  have f13 := H0.out.2.frozen 13
  go_enter Tryd.func67, Tryd.ntmps67
  go_wp2_with fail
  refine wp_loop_rounds 2 ?_
  rw [rounds_succ]
  go_upto_region 7 with (fail)
  go_region
  go_upto_region 8 with (fail)
  refine wp_gen (fun W => Upd w W b ∧ ∃ S', Blk 101 W b S' ∧ S' = fb1) ⟨H0.out.1.trans (Upd.trans (Upd.trans (Upd.set _ _ _ _) (Upd.set _ _ _ _)) ⟨rfl, rfl, rfl, Nat.le_refl _, fun _ _ _ => rfl⟩), _, (H0.out.2.set 14 _).set 13 _, ?_⟩ ?_
  · kernel_rfl
  clear c14 c13 f14 f13
  rintro w1 ⟨hu, S', hB, rfl⟩
  have H1 : Hid (Upd w w1 b ∧ Blk 101 w1 b fb1) := ⟨hu, hB⟩
  clear hu hB
  have c12 : w1.cell? ⟨b, 12, none⟩ = some (.int .u8 0) := H1.out.2.cell 12
  have c11 : w1.cell? ⟨b, 11, none⟩ = some (.int .u8 0) := H1.out.2.cell 11
  have f12 := H1.out.2.frozen 12
  have f11 := H1.out.2.frozen 11
  go_upto_region 8 with (fail)
  go_region
  go_upto_region 9 with (fail)
  refine wp_gen (fun W => Upd w W b ∧ ∃ S', Blk 101 W b S' ∧ S' = fb2) ⟨H1.out.1.trans (Upd.trans (Upd.trans (Upd.set _ _ _ _) (Upd.set _ _ _ _)) ⟨rfl, rfl, rfl, Nat.le_refl _, fun _ _ _ => rfl⟩), _, (H1.out.2.set 12 _).set 11 _, ?_⟩ ?_
  · kernel_rfl
  clear c12 c11 f12 f11
  rintro w2 ⟨hu, S', hB, rfl⟩
  have H2 : Hid (Upd w w2 b ∧ Blk 101 w2 b fb2) := ⟨hu, hB⟩
  clear hu hB
  have c10 : w2.cell? ⟨b, 10, none⟩ = some (.int .u8 0) := H2.out.2.cell 10
  have c9 : w2.cell? ⟨b, 9, none⟩ = some (.int .u8 0) := H2.out.2.cell 9
  have f10 := H2.out.2.frozen 10
  have f9 := H2.out.2.frozen 9
  go_upto_region 9 with (fail)
  go_region
  go_upto_region 10 with (fail)
  refine wp_gen (fun W => Upd w W b ∧ ∃ S', Blk 101 W b S' ∧ S' = fb3) ⟨H2.out.1.trans (Upd.trans (Upd.trans (Upd.set _ _ _ _) (Upd.set _ _ _ _)) ⟨rfl, rfl, rfl, Nat.le_refl _, fun _ _ _ => rfl⟩), _, (H2.out.2.set 10 _).set 9 _, ?_⟩ ?_
  · kernel_rfl
  clear c10 c9 f10 f9
  rintro w3 ⟨hu, S', hB, rfl⟩
  have H3 : Hid (Upd w w3 b ∧ Blk 101 w3 b fb3) := ⟨hu, hB⟩
  clear hu hB
  have c8 : w3.cell? ⟨b, 8, none⟩ = some (.int .u8 0) := H3.out.2.cell 8
  have c7 : w3.cell? ⟨b, 7, none⟩ = some (.int .u8 0) := H3.out.2.cell 7
  have f8 := H3.out.2.frozen 8
  have f7 := H3.out.2.frozen 7
  go_upto_region 10 with (fail)
  go_region
  go_upto_region 11 with (fail)
  refine wp_gen (fun W => Upd w W b ∧ ∃ S', Blk 101 W b S' ∧ S' = fb4) ⟨H3.out.1.trans (Upd.trans (Upd.trans (Upd.set _ _ _ _) (Upd.set _ _ _ _)) ⟨rfl, rfl, rfl, Nat.le_refl _, fun _ _ _ => rfl⟩), _, (H3.out.2.set 8 _).set 7 _, ?_⟩ ?_
  · kernel_rfl
  clear c8 c7 f8 f7
  rintro w4 ⟨hu, S', hB, rfl⟩
  have H4 : Hid (Upd w w4 b ∧ Blk 101 w4 b fb4) := ⟨hu, hB⟩
  clear hu hB
  have c6 : w4.cell? ⟨b, 6, none⟩ = some (.int .u8 0) := H4.out.2.cell 6
  have c5 : w4.cell? ⟨b, 5, none⟩ = some (.int .u8 0) := H4.out.2.cell 5
  have f6 := H4.out.2.frozen 6
  have f5 := H4.out.2.frozen 5
  go_wp2_with fail
  rw [rounds_succ]
  go_upto_region 17 with (fail)
  go_region
  go_upto_region 18 with (fail)
  refine wp_gen (fun W => Upd w W b ∧ ∃ S', Blk 101 W b S' ∧ S' = fb5) ⟨H4.out.1.trans (Upd.trans (Upd.trans (Upd.set _ _ _ _) (Upd.set _ _ _ _)) ⟨rfl, rfl, rfl, Nat.le_refl _, fun _ _ _ => rfl⟩), _, (H4.out.2.set 6 _).set 5 _, ?_⟩ ?_
  · kernel_rfl
  clear c6 c5 f6 f5
  rintro w5 ⟨hu, S', hB, rfl⟩
  have H5 : Hid (Upd w w5 b ∧ Blk 101 w5 b fb5) := ⟨hu, hB⟩
  clear hu hB
  have c4 : w5.cell? ⟨b, 4, none⟩ = some (.int .u8 0) := H5.out.2.cell 4
  have c3 : w5.cell? ⟨b, 3, none⟩ = some (.int .u8 0) := H5.out.2.cell 3
  have f4 := H5.out.2.frozen 4
  have f3 := H5.out.2.frozen 3
  go_upto_region 18 with (fail)
  go_region
  go_upto_region 19 with (fail)
  refine wp_gen (fun W => Upd w W b ∧ ∃ S', Blk 101 W b S' ∧ S' = fb6) ⟨H5.out.1.trans (Upd.trans (Upd.trans (Upd.set _ _ _ _) (Upd.set _ _ _ _)) ⟨rfl, rfl, rfl, Nat.le_refl _, fun _ _ _ => rfl⟩), _, (H5.out.2.set 4 _).set 3 _, ?_⟩ ?_
  · kernel_rfl
  clear c4 c3 f4 f3
  rintro w6 ⟨hu, S', hB, rfl⟩
  have H6 : Hid (Upd w w6 b ∧ Blk 101 w6 b fb6) := ⟨hu, hB⟩
  clear hu hB
  have c2 : w6.cell? ⟨b, 2, none⟩ = some (.int .u8 0) := H6.out.2.cell 2
  have c1 : w6.cell? ⟨b, 1, none⟩ = some (.int .u8 0) := H6.out.2.cell 1
  have f2 := H6.out.2.frozen 2
  have f1 := H6.out.2.frozen 1
  go_upto_region 23 with (fail)
  go_region
  go_upto_region 24 with (fail)
  refine wp_gen (fun W => Upd w W b ∧ ∃ S', Blk 101 W b S' ∧ S' = fb7) ⟨H6.out.1.trans (Upd.trans (Upd.trans (Upd.set _ _ _ _) (Upd.set _ _ _ _)) ⟨rfl, rfl, rfl, Nat.le_refl _, fun _ _ _ => rfl⟩), _, (H6.out.2.set 2 _).set 1 _, ?_⟩ ?_
  · kernel_rfl
  clear c2 c1 f2 f1
  rintro w7 ⟨hu, S', hB, rfl⟩
  have H7 : Hid (Upd w w7 b ∧ Blk 101 w7 b fb7) := ⟨hu, hB⟩
  clear hu hB
  go_wp2
  go_end0
  exact ⟨⟨_, rfl⟩, H7.out⟩
end Go.Proofs.YtonfllajceppgaaDoor
