/-
  Text: the page's examples.
-/
import Derived.Test.YtonekkfpadgdhaaDoorT10
import Derived.Lib.SlBytesConst
namespace Go.Proofs.YtonekkfpadgdhaaDoor
open Go.RowKit
theorem sz1 (w : World) (o : Obj) : (w.alloc o).heap.size = w.heap.size + 1 := by simp
theorem num_any {w : World} (x : Int) : Calls Tryd.prog 13 #[.int .i64 x] w fun e w' => e = .returned (.int .i64 x) ∧ w = w' := by
  go_enter Tryd.func13, Tryd.ntmps13
  go_wp2
  go_ret
  exact ⟨rfl, rfl⟩
theorem ex1 : textS 30 [0, 65, 32, 172] = ([65, 226, 130, 172], 0) := by decide +kernel
theorem ex2 : textS 19 [97, 64, 98] = ([], 60) := by decide +kernel
theorem ex3 : foldB [32, 32, 65, 32, 32, 98, 32] = [97, 32, 98] := by decide +kernel
theorem ex4 : keyB 22 [65, 32] = [61, 97] := by decide +kernel
theorem ex5 : keyB 19 [65, 67, 77, 69] = keyB 12 [97, 99, 109, 101] := by decide +kernel
set_option maxHeartbeats 4000000 in
set_option maxRecDepth 100000 in
theorem live_any {w : World} (hT : U8T w) (hP : P10 w) : Calls Tryd.prog 9 #[] w fun e w' => e = .returned (.bool true) ∧ Below w.heap.size w w' := by
  have HT : Hid (U8T w ∧ P10 w) := ⟨hT, hP⟩
  clear hT hP
  have kc := fun (w : World) (C : Array Value) (n c : Nat) => Lib.run_convert_bytes_const (P := Tryd.prog) w 22 5 C n c Tryd.und8 Tryd.e8
  have kc2 := fun (w : World) (o : Obj) (C : Array Value) (n c : Nat) => kc (w.alloc o) C n c
  simp only [sz1] at kc2
  have HU : Hid (∀ W, Below w.heap.size w W → U8T W ∧ P10 W) := fun W h => ⟨Utf8Tabs_below HT.out.1 h, Tabs_below HT.out.2 h⟩
  have s1 : str [65, 226, 130, 172] = ⟨#[65, 226, 130, 172]⟩ := rfl
  have s3 : str [97, 32, 98] = ⟨#[97, 32, 98]⟩ := rfl
  have s4 : str [61, 97] = ⟨#[61, 97]⟩ := rfl
  have HS : Hid ((str [65, 226, 130, 172] = ⟨#[65, 226, 130, 172]⟩) ∧ (str [97, 32, 98] = ⟨#[97, 32, 98]⟩) ∧ (str [61, 97] = ⟨#[61, 97]⟩)) := ⟨s1, s3, s4⟩
  clear s1 s3 s4
  go_enter Tryd.func9, Tryd.ntmps9
  go_wp2_with fail
  have h1 := Text_any (w := w.alloc (.cells #[.int .u8 0, .int .u8 65, .int .u8 32, .int .u8 172] 5)) 30 (.slice (some ⟨w.heap.size, 0, none⟩) 4 4) [0, 65, 32, 172] (new_sl [0, 65, 32, 172] (0, 0)) (by decide) (Utf8Tabs_below HT.out.1 (al1 _))
  unfold TextEnd at h1
  rw [ex1, HS.out.1] at h1
  refine h1.mono ?_
  clear h1
  rintro e w1 ⟨rfl, hb⟩
  have H1 : Hid (Below w.heap.size w w1) := below_via (al1 _) hb (Nat.le_refl _)
  clear hb
  go_wp2_with fail
  have h1 := Text_any (w := w1.alloc (.cells #[.int .u8 97, .int .u8 64, .int .u8 98] 5 (3, 4))) 19 (.slice (some ⟨w1.heap.size, 0, none⟩) 3 3) [97, 64, 98] (new_sl [97, 64, 98] (3, 4)) (by decide) (HU.out _ (al2' H1.out)).1
  unfold TextEnd at h1
  rw [ex2] at h1
  refine h1.mono ?_
  clear h1
  rintro e w2 ⟨rfl, hb⟩
  have H2 : Hid (Below w.heap.size w w2) := below_via (al2' H1.out) hb (Nat.le_refl _)
  clear hb
  go_wp2_with (go_at_call 13; refine (num_any _).mono ?_; rintro e w' ⟨rfl, rfl⟩)
  have h1 := Fold_any (w := w2) [32, 32, 65, 32, 32, 98, 32] (by decide) (HU.out _ H2.out).1
  rw [ex3, HS.out.2.1] at h1
  refine h1.mono ?_
  clear h1
  rintro e w3 ⟨rfl, hb⟩
  have H3 : Hid (Below w.heap.size w w3) := below_via H2.out hb (Nat.le_refl _)
  clear hb
  go_wp2_with fail
  have h1 := Key_any (w := w3.alloc (.cells #[.int .u8 65, .int .u8 32] 5 (2, 3))) 22 (.slice (some ⟨w3.heap.size, 0, none⟩) 2 2) [65, 32] (new_sl [65, 32] (2, 3)) (by decide) (by decide) (by decide) (HU.out _ (al2' H3.out)).1 (HU.out _ (al2' H3.out)).2
  rw [ex4, HS.out.2.2] at h1
  refine h1.mono ?_
  clear h1
  rintro e w4 ⟨rfl, hb⟩
  have H4 : Hid (Below w.heap.size w w4) := below_via (al2' H3.out) hb (Nat.le_refl _)
  clear hb
  go_wp2_with fail
  have h1 := Alike_any (w := (w4.alloc (.cells #[.int .u8 65, .int .u8 67, .int .u8 77, .int .u8 69] 5 (4, 5))).alloc (.cells #[.int .u8 97, .int .u8 99, .int .u8 109, .int .u8 101] 5 (4, 5))) 19 12 (.slice (some ⟨w4.heap.size, 0, none⟩) 4 4) (.slice (some ⟨w4.heap.size + 1, 0, none⟩) 4 4) [65, 67, 77, 69] [97, 99, 109, 101] (sl_alloc (new_sl [65, 67, 77, 69] (4, 5)) _) (by have := new_sl (k := .u8) (e := 5) (w := w4.alloc (.cells #[.int .u8 65, .int .u8 67, .int .u8 77, .int .u8 69] 5 (4, 5))) [97, 99, 109, 101] (4, 5); rw [sz1] at this; exact this) (by decide) (by decide) (by decide) (by decide) (by decide) (by decide) (HU.out _ (al2' (al2' H4.out))).1 (HU.out _ (al2' (al2' H4.out))).2
  rw [ex5, decide_eq_true rfl] at h1
  refine h1.mono ?_
  clear h1
  rintro e w5 ⟨rfl, hb⟩
  have H5 : Hid (Below w.heap.size w w5) := below_via (al2' (al2' H4.out)) hb (Nat.le_refl _)
  clear hb
  go_wp2
  go_ret
  exact ⟨rfl, H5.out⟩
end Go.Proofs.YtonekkfpadgdhaaDoor
