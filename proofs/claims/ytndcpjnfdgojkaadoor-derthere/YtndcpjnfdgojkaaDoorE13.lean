/-
  Der: the page's examples, all.
-/
import Derived.Test.YtndcpjnfdgojkaaDoorE10
import Derived.Test.YtndcpjnfdgojkaaDoorE12
namespace Go.Proofs.YtndcpjnfdgojkaaDoor
open Go.RowKit
theorem flags_ex : FlagsVal [5, 160] = 5 ∧ FlagsErr [5, 160] = 0 := by decide +kernel
theorem ex_u8 : U8s [5, 160] := by intro x hx; unfold U8; simp at hx; omega
theorem Flags_live {w : World} (b : Nat) (hA : Arr .u8 5 w b [5, 160]) :
    Calls Tryd.prog 35 #[.slice (some ⟨b, 0, none⟩) 2 2] w fun e w' => e = .returned (.tuple #[.int .u32 5, .int .i64 0]) ∧ Below w.heap.size w w' := by
  have := Flags_any (w := w) (.slice (some ⟨b, 0, none⟩) 2 2) [5, 160] hA.sl ex_u8 (by simp)
  rw [flags_ex.1, flags_ex.2] at this
  exact this
set_option maxRecDepth 20000 in
set_option maxHeartbeats 4000000 in
theorem live_any {w : World} (hT : Tab w) : Calls Tryd.prog 8 #[] w fun e w' => e = .returned (.bool true) ∧ Below w.heap.size w w' := by
  have HT : Hid (Tab w) := hT
  clear hT
  go_enter Tryd.func8, Tryd.ntmps8
  go_wp2_with fail
  refine (Split_live w.heap.size (Blk.new _ w _)).mono ?_
  rintro e w1 ⟨bl, cl, bd, cd, rfl, hcl, e1, e7, e8, hd, hb⟩
  obtain ⟨b', c', hv, hcv⟩ := row_str (n := 2) hd rfl (by omega)
  simp only [Value.slice.injEq, Option.some.injEq, Addr.mk.injEq, and_true, true_and] at hv
  obtain ⟨rfl, rfl⟩ := hv
  rw [show strOfNums [5, 0] = ⟨#[5, 0]⟩ from rfl] at hcv
  have H1 : Hid (Below w.heap.size w w1) := below_via (al1 _) hb (Nat.le_refl _)
  clear hd hb
  have hclI : (2 : Int) ≤ (cl : Int) := by omega
  go_wp2_with (go_at_call 15; refine (num4_any _ _).mono ?_; rintro e w' ⟨rfl, rfl⟩)
  refine (Int_live w1.heap.size (Blk.new _ w1 _)).mono ?_
  rintro e w2 ⟨rfl, rfl⟩
  clear e1 e7 e8 hcv
  go_wp2_with fail
  refine (Oid_live (w1.heap.size + 1) (HT.out.below (below_via H1.out (al2' (al1 _)) (Nat.le_refl _))) (arr_nw (by simp) rfl)).mono ?_
  rintro e w3 ⟨rfl, hb3⟩
  have H3 : Hid (Below w.heap.size w w3) := below_via (below_via H1.out (al2' (al1 _)) (Nat.le_refl _)) hb3 (Nat.le_refl _)
  clear hb3
  go_wp2_with fail
  refine (PutOid_live (w := w3)).mono ?_
  rintro e w4 ⟨r4, rfl, hr4, hb4⟩
  have H4 : Hid (Row .u8 5 w3.heap.size w4 r4 [136, 55] ∧ Below w.heap.size w w4) := ⟨hr4, below_via H3.out hb4 (Nat.le_refl _)⟩
  clear hr4 hb4
  go_wp2_with fail
  refine (Flags_live w4.heap.size (arr_nw rfl rfl)).mono ?_
  rintro e w5 ⟨rfl, hb5⟩
  have H5 : Hid (Row .u8 5 w3.heap.size w5 r4 [136, 55] ∧ Below w.heap.size w w5) := ⟨(H4.out.1.alloc _).below hb5, below_via (below_via H4.out.2 (al1 _) (Nat.le_refl _)) hb5 (Nat.le_refl _)⟩
  clear hb5
  go_wp2_with fail
  refine (Uint_live w5.heap.size (arr_nw rfl rfl)).mono ?_
  rintro e w6 ⟨rfl, rfl⟩
  obtain ⟨b4, c4, hv, hcv⟩ := row_str (n := 2) (H5.out.1.alloc (.cells #[.int .u8 128] 5)) rfl (by omega)
  subst hv
  rw [show strOfNums [136, 55] = ⟨#[136, 55]⟩ from rfl] at hcv
  go_wp2_with (go_at_call 15; refine (num4_any _ _).mono ?_; rintro e w' ⟨rfl, rfl⟩)
  go_ret
  exact ⟨rfl, below_via H5.out.2 (al1 _) (Nat.le_refl _)⟩
end Go.Proofs.YtndcpjnfdgojkaaDoor
