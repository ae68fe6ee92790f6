/-
  Digest: the law DigestKnown.
-/
import Derived.Test.YtgipmjpkaemdkaaDoorG23
namespace Go.Proofs.YtgipmjpkaemdkaaDoor
open Go.RowKit
theorem to_str8 {w : World} {d n : Nat} {xs : List Int} (h : Arr .u8 5 w d xs) (hn : 8 ≤ xs.length) : Sem.run Tryd.prog (convert 25 9 (.slice (some ⟨d, 0, none⟩) 8 n)) w = .ok (.string (strOfNums (xs.take 8))) w :=
  run_convert_bytes_arg w _ _ Tryd.und8 Tryd.e8 d 0 8 n (xs.take 8) (by simp; omega) (fun i hi => by rw [Nat.zero_add, h.cell i (by omega)]; simp [hi]) _ Tryd.str
theorem nil_sls (w : World) : SlS w (.slice none 0 0) [] := ⟨none, 0, rfl, Nat.le_refl _, .inl rfl⟩
theorem nil_msgs (w : World) : Msgs w [] [] := ⟨rfl, fun i hi => by simp at hi⟩
theorem m56_u8 : U8s [97, 98, 99, 100, 98, 99, 100, 101, 99, 100, 101, 102, 100, 101, 102, 103, 101, 102, 103, 104, 102, 103, 104, 105, 103, 104, 105, 106, 104, 105, 106, 107, 105, 106, 107, 108, 106, 107, 108, 109, 107, 108, 109, 110, 108, 109, 110, 111, 109, 110, 111, 112, 110, 111, 112, 113] := by unfold U8s U8; decide
set_option maxRecDepth 10000 in
set_option maxHeartbeats 2000000 in
theorem DigestKnown_any {w : World} (hT : Tabs w) : Calls Tryd.prog 8 #[] w fun e w' => e = .returned (.bool true) ∧ Below w.heap.size w w' := by
  have HT : Hid (Tabs w) := hT
  clear hT
  have kc := fun (w : World) (C : Array Value) (n c : Nat) => Lib.run_convert_bytes_const (P := Tryd.prog) w 25 5 C n c Tryd.und8 Tryd.e8
  have HB : Hid (∀ (W : World) (o1 o2 : Obj), Below W.heap.size W ((W.alloc o1).alloc o2)) := fun W o1 o2 => ((Below.refl _ _).alloc (Nat.le_refl _) _).alloc (by simp) _
  go_enter Tryd.func8, Tryd.ntmps8
  go_wp2_with fail
  refine (Sum_any 2 (.inr (.inl rfl)) HT.out _ [] [] (nil_sls _) (nil_msgs _) (by simp) (by simp)).mono ?_
  rintro e w1 ⟨d1, rfl, hd, hA, hb⟩
  rw [show ([] : List (List Int)).flatten = [] from rfl, dig_256e] at hA
  rw [show siz 2 = 32 from rfl]
  have H1 : Hid (Below w.heap.size w w1 ∧ Arr .u8 5 w1 d1 [227, 176, 196, 66, 152, 252, 28, 20, 154, 251, 244, 200, 153, 111, 185, 36, 39, 174, 65, 228, 100, 155, 147, 76, 164, 149, 153, 27, 120, 82, 184, 85]) := ⟨hb, hA⟩
  clear hd hA hb
  go_wp2_with fail
  refine (Sum_any 3 (.inr (.inr (.inl rfl))) (HT.out.below (below_via H1.out.1 (HB.out w1 _ _) (Nat.le_refl _))) _ [.slice (some ⟨w1.heap.size, 0, none⟩) 3 3] [[97, 98, 99]] (by have := (Blk.new 25 (w1.alloc (.cells #[.int .u8 97, .int .u8 98, .int .u8 99] 5 (3, 4))) [.slice (some ⟨w1.heap.size, 0, none⟩) 3 3]).sls; simpa using this) (msgs1 (sl_alloc (new_sl [97, 98, 99] (3, 4)) _) bytes3_u8) (by simp) (by simp)).mono ?_
  rintro e w2 ⟨d2, rfl, hd, hA, hb⟩
  rw [show ([[97, 98, 99]] : List (List Int)).flatten = [97, 98, 99] from rfl, dig_384a] at hA
  rw [show siz 3 = 48 from rfl]
  have hbb : Below w1.heap.size w1 w2 := below_via (HB.out w1 _ _) hb (Nat.le_refl _)
  have H2 : Hid (Below w.heap.size w w2 ∧ Arr .u8 5 w2 d1 [227, 176, 196, 66, 152, 252, 28, 20, 154, 251, 244, 200, 153, 111, 185, 36, 39, 174, 65, 228, 100, 155, 147, 76, 164, 149, 153, 27, 120, 82, 184, 85] ∧ Arr .u8 5 w2 d2 [203, 0, 117, 63, 69, 163, 94, 139, 181, 160, 61, 105, 154, 198, 80, 7, 39, 44, 50, 171, 14, 222, 209, 99, 26, 139, 96, 90, 67, 255, 91, 237, 128, 134, 7, 43, 161, 231, 204, 35, 88, 186, 236, 161, 52, 200, 37, 167]) := ⟨below_via H1.out.1 hbb (Nat.le_refl _), below_arr hbb (Arr.lt H1.out.2) H1.out.2, hA⟩
  clear hd hA hb hbb
  go_wp2_with fail
  refine (Sum_any 4 (.inr (.inr (.inr rfl))) (HT.out.below (below_via H2.out.1 (HB.out w2 _ _) (Nat.le_refl _))) _ [.slice (some ⟨w2.heap.size, 0, none⟩) 3 3] [[97, 98, 99]] (by have := (Blk.new 25 (w2.alloc (.cells #[.int .u8 97, .int .u8 98, .int .u8 99] 5 (3, 4))) [.slice (some ⟨w2.heap.size, 0, none⟩) 3 3]).sls; simpa using this) (msgs1 (sl_alloc (new_sl [97, 98, 99] (3, 4)) _) bytes3_u8) (by simp) (by simp)).mono ?_
  rintro e w3 ⟨d3, rfl, hd, hA, hb⟩
  rw [show ([[97, 98, 99]] : List (List Int)).flatten = [97, 98, 99] from rfl, dig_512a] at hA
  rw [show siz 4 = 64 from rfl]
  have hbb : Below w2.heap.size w2 w3 := below_via (HB.out w2 _ _) hb (Nat.le_refl _)
  have H3 : Hid (Below w.heap.size w w3 ∧ Arr .u8 5 w3 d1 [227, 176, 196, 66, 152, 252, 28, 20, 154, 251, 244, 200, 153, 111, 185, 36, 39, 174, 65, 228, 100, 155, 147, 76, 164, 149, 153, 27, 120, 82, 184, 85] ∧ Arr .u8 5 w3 d2 [203, 0, 117, 63, 69, 163, 94, 139, 181, 160, 61, 105, 154, 198, 80, 7, 39, 44, 50, 171, 14, 222, 209, 99, 26, 139, 96, 90, 67, 255, 91, 237, 128, 134, 7, 43, 161, 231, 204, 35, 88, 186, 236, 161, 52, 200, 37, 167] ∧ Arr .u8 5 w3 d3 [221, 175, 53, 161, 147, 97, 122, 186, 204, 65, 115, 73, 174, 32, 65, 49, 18, 230, 250, 78, 137, 169, 126, 162, 10, 158, 238, 230, 75, 85, 211, 154, 33, 146, 153, 42, 39, 79, 193, 168, 54, 186, 60, 35, 163, 254, 235, 189, 69, 77, 68, 35, 100, 60, 232, 14, 42, 154, 201, 79, 165, 76, 164, 159]) := ⟨below_via H2.out.1 hbb (Nat.le_refl _), below_arr hbb (Arr.lt H2.out.2.1) H2.out.2.1, below_arr hbb (Arr.lt H2.out.2.2) H2.out.2.2, hA⟩
  clear hd hA hb hbb
  go_wp2_with fail
  refine (Sum_any 2 (.inr (.inl rfl)) (HT.out.below (below_via H3.out.1 (HB.out w3 _ _) (Nat.le_refl _))) _ [.slice (some ⟨w3.heap.size, 0, none⟩) 56 56] [[97, 98, 99, 100, 98, 99, 100, 101, 99, 100, 101, 102, 100, 101, 102, 103, 101, 102, 103, 104, 102, 103, 104, 105, 103, 104, 105, 106, 104, 105, 106, 107, 105, 106, 107, 108, 106, 107, 108, 109, 107, 108, 109, 110, 108, 109, 110, 111, 109, 110, 111, 112, 110, 111, 112, 113]] (by have := (Blk.new 25 (w3.alloc (.cells #[.int .u8 97, .int .u8 98, .int .u8 99, .int .u8 100, .int .u8 98, .int .u8 99, .int .u8 100, .int .u8 101, .int .u8 99, .int .u8 100, .int .u8 101, .int .u8 102, .int .u8 100, .int .u8 101, .int .u8 102, .int .u8 103, .int .u8 101, .int .u8 102, .int .u8 103, .int .u8 104, .int .u8 102, .int .u8 103, .int .u8 104, .int .u8 105, .int .u8 103, .int .u8 104, .int .u8 105, .int .u8 106, .int .u8 104, .int .u8 105, .int .u8 106, .int .u8 107, .int .u8 105, .int .u8 106, .int .u8 107, .int .u8 108, .int .u8 106, .int .u8 107, .int .u8 108, .int .u8 109, .int .u8 107, .int .u8 108, .int .u8 109, .int .u8 110, .int .u8 108, .int .u8 109, .int .u8 110, .int .u8 111, .int .u8 109, .int .u8 110, .int .u8 111, .int .u8 112, .int .u8 110, .int .u8 111, .int .u8 112, .int .u8 113] 5 (56, 57))) [.slice (some ⟨w3.heap.size, 0, none⟩) 56 56]).sls; simpa using this) (msgs1 (sl_alloc (new_sl [97, 98, 99, 100, 98, 99, 100, 101, 99, 100, 101, 102, 100, 101, 102, 103, 101, 102, 103, 104, 102, 103, 104, 105, 103, 104, 105, 106, 104, 105, 106, 107, 105, 106, 107, 108, 106, 107, 108, 109, 107, 108, 109, 110, 108, 109, 110, 111, 109, 110, 111, 112, 110, 111, 112, 113] (56, 57)) _) m56_u8) (by simp) (by simp)).mono ?_
  rintro e w4 ⟨d4, rfl, hd, hA, hb⟩
  rw [show ([[97, 98, 99, 100, 98, 99, 100, 101, 99, 100, 101, 102, 100, 101, 102, 103, 101, 102, 103, 104, 102, 103, 104, 105, 103, 104, 105, 106, 104, 105, 106, 107, 105, 106, 107, 108, 106, 107, 108, 109, 107, 108, 109, 110, 108, 109, 110, 111, 109, 110, 111, 112, 110, 111, 112, 113]] : List (List Int)).flatten = [97, 98, 99, 100, 98, 99, 100, 101, 99, 100, 101, 102, 100, 101, 102, 103, 101, 102, 103, 104, 102, 103, 104, 105, 103, 104, 105, 106, 104, 105, 106, 107, 105, 106, 107, 108, 106, 107, 108, 109, 107, 108, 109, 110, 108, 109, 110, 111, 109, 110, 111, 112, 110, 111, 112, 113] from rfl, dig_256m] at hA
  rw [show siz 2 = 32 from rfl]
  have hbb : Below w3.heap.size w3 w4 := below_via (HB.out w3 _ _) hb (Nat.le_refl _)
  have H4 : Hid (Below w.heap.size w w4 ∧ Arr .u8 5 w4 d1 [227, 176, 196, 66, 152, 252, 28, 20, 154, 251, 244, 200, 153, 111, 185, 36, 39, 174, 65, 228, 100, 155, 147, 76, 164, 149, 153, 27, 120, 82, 184, 85] ∧ Arr .u8 5 w4 d2 [203, 0, 117, 63, 69, 163, 94, 139, 181, 160, 61, 105, 154, 198, 80, 7, 39, 44, 50, 171, 14, 222, 209, 99, 26, 139, 96, 90, 67, 255, 91, 237, 128, 134, 7, 43, 161, 231, 204, 35, 88, 186, 236, 161, 52, 200, 37, 167] ∧ Arr .u8 5 w4 d3 [221, 175, 53, 161, 147, 97, 122, 186, 204, 65, 115, 73, 174, 32, 65, 49, 18, 230, 250, 78, 137, 169, 126, 162, 10, 158, 238, 230, 75, 85, 211, 154, 33, 146, 153, 42, 39, 79, 193, 168, 54, 186, 60, 35, 163, 254, 235, 189, 69, 77, 68, 35, 100, 60, 232, 14, 42, 154, 201, 79, 165, 76, 164, 159] ∧ Arr .u8 5 w4 d4 [36, 141, 106, 97, 210, 6, 56, 184, 229, 192, 38, 147, 12, 62, 96, 57, 163, 60, 228, 89, 100, 255, 33, 103, 246, 236, 237, 212, 25, 219, 6, 193]) := ⟨below_via H3.out.1 hbb (Nat.le_refl _), below_arr hbb (Arr.lt H3.out.2.1) H3.out.2.1, below_arr hbb (Arr.lt H3.out.2.2.1) H3.out.2.2.1, below_arr hbb (Arr.lt H3.out.2.2.2) H3.out.2.2.2, hA⟩
  clear hd hA hb hbb
  have hcv1 : Sem.run Tryd.prog (convert 25 9 (.slice (some ⟨d1, 0, none⟩) 8 32)) w4 = .ok (.string ⟨#[227, 176, 196, 66, 152, 252, 28, 20]⟩) w4 := to_str8 H4.out.2.1 (by decide)
  have hcv2 : Sem.run Tryd.prog (convert 25 9 (.slice (some ⟨d2, 0, none⟩) 8 48)) w4 = .ok (.string ⟨#[203, 0, 117, 63, 69, 163, 94, 139]⟩) w4 := to_str8 H4.out.2.2.1 (by decide)
  have hcv3 : Sem.run Tryd.prog (convert 25 9 (.slice (some ⟨d3, 0, none⟩) 8 64)) w4 = .ok (.string ⟨#[221, 175, 53, 161, 147, 97, 122, 186]⟩) w4 := to_str8 H4.out.2.2.2.1 (by decide)
  have hcv4 : Sem.run Tryd.prog (convert 25 9 (.slice (some ⟨d4, 0, none⟩) 8 32)) w4 = .ok (.string ⟨#[36, 141, 106, 97, 210, 6, 56, 184]⟩) w4 := to_str8 H4.out.2.2.2.2 (by decide)
  go_wp2_with (go_at_call 10; refine (live_any (HT.out.below H4.out.1)).mono ?_; rintro e w5 ⟨rfl, hb5⟩)
  go_ret
  exact ⟨rfl, below_via H4.out.1 hb5 (Nat.le_refl _)⟩
end Go.Proofs.YtgipmjpkaemdkaaDoor
