/-
  Digest: the law DigestPieces: however a message is cut.
-/
import Derived.Test.YtgipmjpkaemdkaaDoorG22
import Derived.Deep.RegionHeld3
namespace Go.Proofs.YtgipmjpkaemdkaaDoor
open Go.RowKit
theorem siz_alg {alg : Int} (h : Alg alg) : ¬ (siz alg : Int) = 0 := by rcases h with rfl | rfl | rfl | rfl <;> decide
theorem msgs3 {w : World} {v u x : Value} {m n l : List Int} (h : Sl .u8 w v m) (um : U8s m) (h' : Sl .u8 w u n) (un : U8s n) (h3 : Sl .u8 w x l) (ul : U8s l) : Msgs w [v, u, x] [m, n, l] := ⟨rfl, fun i hi => by
  match i, hi with
  | 0, _ => exact ⟨h, um⟩
  | 1, _ => exact ⟨h', un⟩
  | 2, _ => exact ⟨h3, ul⟩⟩
theorem sls3 {w : World} {T : TypeId} (v u x : Value) : SlS (w.alloc (.cells #[v, u, x] T)) (.slice (some ⟨w.heap.size, 0, none⟩) 3 3) [v, u, x] := (Blk.new T w [v, u, x]).sls
theorem nil_sl (w : World) : Sl .u8 w (.slice none 0 0) [] := ⟨none, 0, rfl, Nat.le_refl _, .inl rfl⟩
theorem below_dal {w : World} (o : Obj) {n : Nat} : Below w.heap.size w ((w.drewN n).alloc o) := below_via (below_drewN n (Below.refl _ _)) (al1 o) (Nat.le_refl _)
theorem nil_u8 : U8s [] := by intro x hx; simp at hx

set_option maxRecDepth 20000 in
set_option maxHeartbeats 2000000 in
theorem DigestPieces_P {w : World} (alg : Int) (ha : Alg alg) (A : List Int) (b off n c k : Nat) (hb : b < w.heap.size) (hr : Rd .u8 w b off A) (lA : A.length = n) (hkn : k ≤ n) (hnc : n ≤ c) (hck : ¬ c = k) (uA : U8s A) (s1 : n ≤ 65536) (hT : Tabs w) :
    Calls Tryd.prog 5 #[.int .i64 alg, .slice (some ⟨b, off, none⟩) n c, .int .i64 k] w fun e w' => e = .returned (.bool true) ∧ Below w.heap.size w w' := by
  have hA : Sl .u8 w (.slice (some ⟨b, off, none⟩) n c) A := ⟨_, _, by rw [lA], by rw [lA]; exact hnc, .inr ⟨b, off, rfl, hb, hr⟩⟩
  have h1 : Sl .u8 w (.slice (some ⟨b, off, none⟩) k c) (A.take k) := ⟨_, _, by rw [List.length_take]; congr 1; omega, by rw [List.length_take]; omega, .inr ⟨b, off, rfl, hb, hr.take k⟩⟩
  have h2 : Sl .u8 w (.slice (some ⟨b, off + k, none⟩) (n - k) (c - k)) (A.drop k) := (SlX.tail (g := w.heap.size) hb (by omega) hr lA hnc hkn).sl
  have h3 : Sl .u8 w (.slice (some ⟨b, off + k, none⟩) 0 (c - k)) [] := ⟨_, _, rfl, Nat.zero_le _, .inl rfl⟩
  have hkI : (k : Int) ≤ (n : Int) := by omega
  have hkc : (k : Int) ≤ (c : Int) := by omega
  have hz7 := hT.size
  have HX : Hid (Sl .u8 w (.slice (some ⟨b, off, none⟩) n c) A ∧ Sl .u8 w (.slice (some ⟨b, off, none⟩) k c) (A.take k) ∧ Sl .u8 w (.slice (some ⟨b, off + k, none⟩) (n - k) (c - k)) (A.drop k) ∧ Sl .u8 w (.slice (some ⟨b, off + k, none⟩) 0 (c - k)) [] ∧ A.length = n ∧ U8s A ∧ Tabs w) := ⟨hA, h1, h2, h3, lA, uA, hT⟩
  obtain ⟨D, hD⟩ : ∃ D, dig alg A = D := ⟨_, rfl⟩
  have HD : Hid (dig alg A = D ∧ D.length = siz alg ∧ siz alg ≤ 64) := ⟨hD, by rw [← hD]; exact dig_len _ _, siz_le _⟩
  have HSz : Hid (∀ w' : World, Calls Tryd.prog 17 #[.int .i64 alg] w' fun e w'' => e = .returned (.int .i64 (siz alg)) ∧ w' = w'') := fun w' => (Size_any alg).mono fun _ _ h => ⟨h.1, h.2.symm⟩
  have hs0 : ¬ (siz alg : Int) = 0 := siz_alg ha
  clear hA h1 h2 h3 lA uA hT hD hr
  go_enter Tryd.func5, Tryd.ntmps5
  go_wp2_with fail
  refine (Sum_any (w := w.alloc _) alg ha (HX.out.2.2.2.2.2.2.below (al1 _)) _ _ [A] (sls1 _) (msgs1 (below_sl (al1 _) HX.out.1) HX.out.2.2.2.2.2.1) (by have := HX.out.2.2.2.2.1; simp; omega) (by simp)).mono ?_
  rintro e w1 ⟨d1, rfl, hd, hA, hb⟩
  rw [show [A].flatten = A by simp, HD.out.1] at hA
  have H1 : Hid (Below w.heap.size w w1 ∧ Sl .u8 w1 (.slice (some ⟨d1, 0, none⟩) (siz alg) (siz alg)) D) := ⟨below_via (al1 _) hb (Nat.le_refl _), by have := hA.sl; rw [HD.out.2.1] at this; exact this⟩
  clear hd hA hb
  go_upto_region 4 with (fail)
  go_region_held3 (fun _ => True) (trivial) ((go_at_call 12; refine (Sum_any (w := World.alloc _ _) alg ha (HX.out.2.2.2.2.2.2.below (below_via H1.out.1 (below_dal _) (Nat.le_refl _))) _ _ [A.take k, [], A.drop k] (sls3 _ _ _) (msgs3 (below_sl (below_via H1.out.1 (below_dal _) (Nat.le_refl _)) HX.out.2.1) (HX.out.2.2.2.2.2.1.take _) (nil_sl _) nil_u8 (below_sl (below_via H1.out.1 (below_dal _) (Nat.le_refl _)) HX.out.2.2.1) (HX.out.2.2.2.2.2.1.drop _)) (by have := HX.out.2.2.2.2.1; simp; omega) (by simp)).mono ?_; rintro e w2 ⟨d2, rfl, hd, hA, hb⟩))
  rw [show [A.take k, [], A.drop k].flatten = A by simp, HD.out.1] at hA
  have hb2 : Below w1.heap.size w1 w2 := below_via (below_dal _) hb (Nat.le_refl _)
  have H2 : Hid (Below w.heap.size w w2 ∧ Sl .u8 w2 (.slice (some ⟨d1, 0, none⟩) (siz alg) (siz alg)) D ∧ Sl .u8 w2 (.slice (some ⟨d2, 0, none⟩) (siz alg) (siz alg)) D) := ⟨below_via H1.out.1 hb2 (Nat.le_refl _), below_sl hb2 H1.out.2, by have := hA.sl; rw [HD.out.2.1] at this; exact this⟩
  clear hd hA hb hb2
  go_wp2_with (first | (go_at_call 16; refine (num_any _ _).mono ?_; rintro e w' ⟨rfl, rfl⟩) | (go_at_call 17; refine (HSz.out _).mono ?_; rintro e w' ⟨rfl, rfl⟩))
  refine (New_any alg ha (HX.out.2.2.2.2.2.2.below H2.out.1)).mono ?_
  rintro e w3 ⟨g3, rfl, hg3, hh, hb3⟩
  have H3 : Hid (HashIs w3 g3 alg [] ∧ Below w2.heap.size w2 w3 ∧ Below w.heap.size w w3) := ⟨hh, hb3, below_via H2.out.1 hb3 (Nat.le_refl _)⟩
  clear hh hb3
  go_wp2_with (first | (go_at_call 16; refine (num_any _ _).mono ?_; rintro e w' ⟨rfl, rfl⟩) | (go_at_call 17; refine (HSz.out _).mono ?_; rintro e w' ⟨rfl, rfl⟩))
  refine (Write_any (w := w3) g3 alg ha [] [] H3.out.1 (by have := H2.out.1.size; omega) (HX.out.2.2.2.2.2.2.below H3.out.2.2) _ (HX.out.2.2.2.1.xg H3.out.2.2 (Nat.le_trans H2.out.1.size hg3)) nil_u8 nil_u8 (by have := HX.out.2.2.2.2.1; simp <;> omega) (by have := HX.out.2.2.2.2.1; simp <;> omega) (by have := HX.out.2.2.2.2.1; simp <;> omega)).mono ?_
  rintro e w4 ⟨rfl, hh, hu⟩
  have H4 : Hid (HashIs w4 g3 alg [] ∧ Below w2.heap.size w2 w4 ∧ Below w.heap.size w w4) := ⟨hh, hu.below H3.out.2.1 H3.out.2.1.size hg3, hu.below H3.out.2.2 H3.out.2.2.size (Nat.le_trans H2.out.1.size hg3)⟩
  clear hh hu
  go_wp2_with (first | (go_at_call 16; refine (num_any _ _).mono ?_; rintro e w' ⟨rfl, rfl⟩) | (go_at_call 17; refine (HSz.out _).mono ?_; rintro e w' ⟨rfl, rfl⟩))
  refine (Write_any (w := w4) g3 alg ha [] (A.take k) H4.out.1 (by have := H2.out.1.size; omega) (HX.out.2.2.2.2.2.2.below H4.out.2.2) _ (HX.out.2.1.xg H4.out.2.2 (Nat.le_trans H2.out.1.size hg3)) nil_u8 (HX.out.2.2.2.2.2.1.take _) (by have := HX.out.2.2.2.2.1; simp <;> omega) (by have := HX.out.2.2.2.2.1; simp <;> omega) (by have := HX.out.2.2.2.2.1; simp <;> omega)).mono ?_
  rintro e w5 ⟨rfl, hh, hu⟩
  have H5 : Hid (HashIs w5 g3 alg (A.take k) ∧ Below w2.heap.size w2 w5 ∧ Below w.heap.size w w5) := ⟨hh, hu.below H4.out.2.1 H4.out.2.1.size hg3, hu.below H4.out.2.2 H4.out.2.2.size (Nat.le_trans H2.out.1.size hg3)⟩
  clear hh hu
  go_wp2_with (first | (go_at_call 16; refine (num_any _ _).mono ?_; rintro e w' ⟨rfl, rfl⟩) | (go_at_call 17; refine (HSz.out _).mono ?_; rintro e w' ⟨rfl, rfl⟩))
  refine (SumM_dg g3 alg ha (A.take k) H5.out.1 (HX.out.2.2.2.2.2.2.below H5.out.2.2) (HX.out.2.2.2.2.2.1.take _) (by have := HX.out.2.2.2.2.1; simp; omega)).mono ?_
  rintro e w6 ⟨v6, rfl, hd6, hb6⟩
  have H6 : Hid (HashIs w6 g3 alg (A.take k) ∧ Below w2.heap.size w2 w6 ∧ Below w.heap.size w w6 ∧ Dg w5.heap.size w6 v6 (dig alg (A.take k)) ∧ g3 < w5.heap.size) := ⟨H5.out.1.below hb6 H5.out.1.lt, below_via H5.out.2.1 hb6 (Nat.le_refl _), below_via H5.out.2.2 hb6 (Nat.le_refl _), hd6, H5.out.1.lt⟩
  clear hd6 hb6
  go_wp2_with (first | (go_at_call 16; refine (num_any _ _).mono ?_; rintro e w' ⟨rfl, rfl⟩) | (go_at_call 17; refine (HSz.out _).mono ?_; rintro e w' ⟨rfl, rfl⟩))
  refine (Write_any (w := w6) g3 alg ha (A.take k) (A.drop k) H6.out.1 (by have := H2.out.1.size; omega) (HX.out.2.2.2.2.2.2.below H6.out.2.2.1) _ (HX.out.2.2.1.xg H6.out.2.2.1 (Nat.le_trans H2.out.1.size hg3)) (HX.out.2.2.2.2.2.1.take _) (HX.out.2.2.2.2.2.1.drop _) (by have := HX.out.2.2.2.2.1; simp <;> omega) (by have := HX.out.2.2.2.2.1; simp <;> omega) (by have := HX.out.2.2.2.2.1; simp <;> omega)).mono ?_
  rintro e w7 ⟨rfl, hh, hu⟩
  rw [List.take_append_drop] at hh
  have H7 : Hid (HashIs w7 g3 alg A ∧ Below w2.heap.size w2 w7 ∧ Below w.heap.size w w7 ∧ Sl .u8 w7 v6 (dig alg (A.take k))) := by
    refine ⟨hh, hu.below H6.out.2.1 H6.out.2.1.size hg3, hu.below H6.out.2.2.1 H6.out.2.2.1.size (Nat.le_trans H2.out.1.size hg3), ?_⟩
    obtain ⟨d, m, e1, e2, e3, e4⟩ := H6.out.2.2.2.1
    have e5 := hu.arr e4 (by have := H6.out.2.2.2.2; omega)
    rw [e1, ← e2]; exact e5.sl
  clear hh hu
  go_wp2_with (first | (go_at_call 16; refine (num_any _ _).mono ?_; rintro e w' ⟨rfl, rfl⟩) | (go_at_call 17; refine (HSz.out _).mono ?_; rintro e w' ⟨rfl, rfl⟩))
  refine (Sum_dg (w := w7.alloc _) alg ha (HX.out.2.2.2.2.2.2.below (below_via H7.out.2.2.1 (al1 _) (Nat.le_refl _))) _ _ [A.take k] (A.take k) (by simp) (sls1 _) (msgs1 (below_sl (below_via H7.out.2.2.1 (al1 _) (Nat.le_refl _)) HX.out.2.1) (HX.out.2.2.2.2.2.1.take _)) (by have := HX.out.2.2.2.2.1; simp; omega) (by simp)).mono ?_
  rintro e w8 ⟨v8, rfl, hd8, hb8⟩
  have H8 : Hid (HashIs w8 g3 alg A ∧ Below w2.heap.size w2 w8 ∧ Below w.heap.size w w8 ∧ Sl .u8 w8 v6 (dig alg (A.take k)) ∧ Sl .u8 w8 v8 (dig alg (A.take k))) := by
    have hb : Below w7.heap.size w7 w8 := below_via (al1 _) hb8 (Nat.le_refl _)
    exact ⟨H7.out.1.below hb H7.out.1.lt, below_via H7.out.2.1 hb (Nat.le_refl _), below_via H7.out.2.2.1 hb (Nat.le_refl _), below_sl hb H7.out.2.2.2, hd8.sl⟩
  clear hd8 hb8
  go_wp2_with (first | (go_at_call 16; refine (num_any _ _).mono ?_; rintro e w' ⟨rfl, rfl⟩) | (go_at_call 17; refine (HSz.out _).mono ?_; rintro e w' ⟨rfl, rfl⟩))
  refine (SameBytes_any _ _ D (below_sl H8.out.2.1 H2.out.2.1) (below_sl H8.out.2.1 H2.out.2.2) (by have := HD.out.2; omega)).mono ?_
  rintro e w9 ⟨rfl, hb9⟩
  have H9 : Hid (HashIs w9 g3 alg A ∧ Below w2.heap.size w2 w9 ∧ Below w.heap.size w w9 ∧ Sl .u8 w9 v6 (dig alg (A.take k)) ∧ Sl .u8 w9 v8 (dig alg (A.take k))) := ⟨H8.out.1.below hb9 H8.out.1.lt, below_via H8.out.2.1 hb9 (Nat.le_refl _), below_via H8.out.2.2.1 hb9 (Nat.le_refl _), below_sl hb9 H8.out.2.2.2.1, below_sl hb9 H8.out.2.2.2.2⟩
  clear hb9
  go_wp2_with (first | (go_at_call 16; refine (num_any _ _).mono ?_; rintro e w' ⟨rfl, rfl⟩) | (go_at_call 17; refine (HSz.out _).mono ?_; rintro e w' ⟨rfl, rfl⟩))
  refine (SumM_dg g3 alg ha A H9.out.1 (HX.out.2.2.2.2.2.2.below H9.out.2.2.1) HX.out.2.2.2.2.2.1 (by have := HX.out.2.2.2.2.1; omega)).mono ?_
  rintro e w10 ⟨v10, rfl, hd, hb⟩
  rw [HD.out.1] at hd
  have H10 : Hid (Below w2.heap.size w2 w10 ∧ Below w.heap.size w w10 ∧ Sl .u8 w10 v6 (dig alg (A.take k)) ∧ Sl .u8 w10 v8 (dig alg (A.take k)) ∧ Sl .u8 w10 v10 D) := ⟨below_via H9.out.2.1 hb (Nat.le_refl _), below_via H9.out.2.2.1 hb (Nat.le_refl _), below_sl hb H9.out.2.2.2.1, below_sl hb H9.out.2.2.2.2, hd.sl⟩
  clear hd hb
  go_wp2_with (first | (go_at_call 16; refine (num_any _ _).mono ?_; rintro e w' ⟨rfl, rfl⟩) | (go_at_call 17; refine (HSz.out _).mono ?_; rintro e w' ⟨rfl, rfl⟩))
  refine (SameBytes_any _ v10 D (below_sl H10.out.1 H2.out.2.1) H10.out.2.2.2.2 (by have := HD.out.2; omega)).mono ?_
  rintro e w11 ⟨rfl, hb⟩
  have H11 : Hid (Below w.heap.size w w11 ∧ Sl .u8 w11 v6 (dig alg (A.take k)) ∧ Sl .u8 w11 v8 (dig alg (A.take k))) := ⟨below_via H10.out.2.1 hb (Nat.le_refl _), below_sl hb H10.out.2.2.1, below_sl hb H10.out.2.2.2.1⟩
  clear hb
  go_wp2_with (first | (go_at_call 16; refine (num_any _ _).mono ?_; rintro e w' ⟨rfl, rfl⟩) | (go_at_call 17; refine (HSz.out _).mono ?_; rintro e w' ⟨rfl, rfl⟩))
  refine (SameBytes_any v6 v8 _ H11.out.2.1 H11.out.2.2 (dig_short _ _)).mono ?_
  rintro e w12 ⟨rfl, hb⟩
  have H12 : Hid (Below w.heap.size w w12) := below_via H11.out.1 hb (Nat.le_refl _)
  clear hb
  go_wp2_with (first | (go_at_call 16; refine (num_any _ _).mono ?_; rintro e w' ⟨rfl, rfl⟩) | (go_at_call 17; refine (HSz.out _).mono ?_; rintro e w' ⟨rfl, rfl⟩))
  refine (live_any (HX.out.2.2.2.2.2.2.below H12.out)).mono ?_
  rintro e w13 ⟨rfl, hb⟩
  have H13 : Hid (Below w.heap.size w w13) := below_via H12.out hb (Nat.le_refl _)
  clear hb
  go_wp2_with fail
  go_ret
  exact ⟨rfl, H13.out⟩

set_option maxRecDepth 20000 in
set_option maxHeartbeats 2000000 in
theorem DigestPieces_Q {w : World} (alg : Int) (ha : Alg alg) (A : List Int) (a : Option Addr) (n : Nat) (hA : Sl .u8 w (.slice a n n) A) (lA : A.length = n) (uA : U8s A) (s1 : n ≤ 65536) (hT : Tabs w) :
    Calls Tryd.prog 5 #[.int .i64 alg, .slice a n n, .int .i64 n] w fun e w' => e = .returned (.bool true) ∧ Below w.heap.size w w' := by
  have h1 : Sl .u8 w (.slice a n n) (A.take n) := by rw [List.take_of_length_le (by omega)]; exact hA
  have h2 : Sl .u8 w (.slice a 0 0) (A.drop n) := by rw [List.drop_of_length_le (by omega)]; exact ⟨_, _, rfl, Nat.le_refl _, .inl rfl⟩
  have h3 : Sl .u8 w (.slice a 0 0) [] := ⟨_, _, rfl, Nat.le_refl _, .inl rfl⟩
  have hz7 := hT.size
  have HX : Hid (Sl .u8 w (.slice a n n) A ∧ Sl .u8 w (.slice a n n) (A.take n) ∧ Sl .u8 w (.slice a 0 0) (A.drop n) ∧ Sl .u8 w (.slice a 0 0) [] ∧ A.length = n ∧ U8s A ∧ Tabs w) := ⟨hA, h1, h2, h3, lA, uA, hT⟩
  obtain ⟨D, hD⟩ : ∃ D, dig alg A = D := ⟨_, rfl⟩
  have HD : Hid (dig alg A = D ∧ D.length = siz alg ∧ siz alg ≤ 64) := ⟨hD, by rw [← hD]; exact dig_len _ _, siz_le _⟩
  have HSz : Hid (∀ w' : World, Calls Tryd.prog 17 #[.int .i64 alg] w' fun e w'' => e = .returned (.int .i64 (siz alg)) ∧ w' = w'') := fun w' => (Size_any alg).mono fun _ _ h => ⟨h.1, h.2.symm⟩
  have hs0 : ¬ (siz alg : Int) = 0 := siz_alg ha
  clear hA h1 h2 h3 lA uA hT hD
  go_enter Tryd.func5, Tryd.ntmps5
  go_wp2_with fail
  refine (Sum_any (w := w.alloc _) alg ha (HX.out.2.2.2.2.2.2.below (al1 _)) _ _ [A] (sls1 _) (msgs1 (below_sl (al1 _) HX.out.1) HX.out.2.2.2.2.2.1) (by have := HX.out.2.2.2.2.1; simp; omega) (by simp)).mono ?_
  rintro e w1 ⟨d1, rfl, hd, hA, hb⟩
  rw [show [A].flatten = A by simp, HD.out.1] at hA
  have H1 : Hid (Below w.heap.size w w1 ∧ Sl .u8 w1 (.slice (some ⟨d1, 0, none⟩) (siz alg) (siz alg)) D) := ⟨below_via (al1 _) hb (Nat.le_refl _), by have := hA.sl; rw [HD.out.2.1] at this; exact this⟩
  clear hd hA hb
  go_upto_region 4 with (fail)
  go_region_held3 (fun _ => True) (trivial) ((go_at_call 12; refine (Sum_any (w := World.alloc _ _) alg ha (HX.out.2.2.2.2.2.2.below (below_via H1.out.1 (below_dal _) (Nat.le_refl _))) _ _ [A.take n, [], A.drop n] (sls3 _ _ _) (msgs3 (below_sl (below_via H1.out.1 (below_dal _) (Nat.le_refl _)) HX.out.2.1) (HX.out.2.2.2.2.2.1.take _) (nil_sl _) nil_u8 (below_sl (below_via H1.out.1 (below_dal _) (Nat.le_refl _)) HX.out.2.2.1) (HX.out.2.2.2.2.2.1.drop _)) (by have := HX.out.2.2.2.2.1; simp; omega) (by simp)).mono ?_; rintro e w2 ⟨d2, rfl, hd, hA, hb⟩))
  rw [show [A.take n, [], A.drop n].flatten = A by simp, HD.out.1] at hA
  have hb2 : Below w1.heap.size w1 w2 := below_via (below_dal _) hb (Nat.le_refl _)
  have H2 : Hid (Below w.heap.size w w2 ∧ Sl .u8 w2 (.slice (some ⟨d1, 0, none⟩) (siz alg) (siz alg)) D ∧ Sl .u8 w2 (.slice (some ⟨d2, 0, none⟩) (siz alg) (siz alg)) D) := ⟨below_via H1.out.1 hb2 (Nat.le_refl _), below_sl hb2 H1.out.2, by have := hA.sl; rw [HD.out.2.1] at this; exact this⟩
  clear hd hA hb hb2
  go_wp2_with (first | (go_at_call 16; refine (num_any _ _).mono ?_; rintro e w' ⟨rfl, rfl⟩) | (go_at_call 17; refine (HSz.out _).mono ?_; rintro e w' ⟨rfl, rfl⟩))
  refine (New_any alg ha (HX.out.2.2.2.2.2.2.below H2.out.1)).mono ?_
  rintro e w3 ⟨g3, rfl, hg3, hh, hb3⟩
  have H3 : Hid (HashIs w3 g3 alg [] ∧ Below w2.heap.size w2 w3 ∧ Below w.heap.size w w3) := ⟨hh, hb3, below_via H2.out.1 hb3 (Nat.le_refl _)⟩
  clear hh hb3
  go_wp2_with (first | (go_at_call 16; refine (num_any _ _).mono ?_; rintro e w' ⟨rfl, rfl⟩) | (go_at_call 17; refine (HSz.out _).mono ?_; rintro e w' ⟨rfl, rfl⟩))
  refine (Write_any (w := w3) g3 alg ha [] [] H3.out.1 (by have := H2.out.1.size; omega) (HX.out.2.2.2.2.2.2.below H3.out.2.2) _ (HX.out.2.2.2.1.xg H3.out.2.2 (Nat.le_trans H2.out.1.size hg3)) nil_u8 nil_u8 (by have := HX.out.2.2.2.2.1; simp <;> omega) (by have := HX.out.2.2.2.2.1; simp <;> omega) (by have := HX.out.2.2.2.2.1; simp <;> omega)).mono ?_
  rintro e w4 ⟨rfl, hh, hu⟩
  have H4 : Hid (HashIs w4 g3 alg [] ∧ Below w2.heap.size w2 w4 ∧ Below w.heap.size w w4) := ⟨hh, hu.below H3.out.2.1 H3.out.2.1.size hg3, hu.below H3.out.2.2 H3.out.2.2.size (Nat.le_trans H2.out.1.size hg3)⟩
  clear hh hu
  go_wp2_with (first | (go_at_call 16; refine (num_any _ _).mono ?_; rintro e w' ⟨rfl, rfl⟩) | (go_at_call 17; refine (HSz.out _).mono ?_; rintro e w' ⟨rfl, rfl⟩))
  refine (Write_any (w := w4) g3 alg ha [] (A.take n) H4.out.1 (by have := H2.out.1.size; omega) (HX.out.2.2.2.2.2.2.below H4.out.2.2) _ (HX.out.2.1.xg H4.out.2.2 (Nat.le_trans H2.out.1.size hg3)) nil_u8 (HX.out.2.2.2.2.2.1.take _) (by have := HX.out.2.2.2.2.1; simp <;> omega) (by have := HX.out.2.2.2.2.1; simp <;> omega) (by have := HX.out.2.2.2.2.1; simp <;> omega)).mono ?_
  rintro e w5 ⟨rfl, hh, hu⟩
  have H5 : Hid (HashIs w5 g3 alg (A.take n) ∧ Below w2.heap.size w2 w5 ∧ Below w.heap.size w w5) := ⟨hh, hu.below H4.out.2.1 H4.out.2.1.size hg3, hu.below H4.out.2.2 H4.out.2.2.size (Nat.le_trans H2.out.1.size hg3)⟩
  clear hh hu
  go_wp2_with (first | (go_at_call 16; refine (num_any _ _).mono ?_; rintro e w' ⟨rfl, rfl⟩) | (go_at_call 17; refine (HSz.out _).mono ?_; rintro e w' ⟨rfl, rfl⟩))
  refine (SumM_dg g3 alg ha (A.take n) H5.out.1 (HX.out.2.2.2.2.2.2.below H5.out.2.2) (HX.out.2.2.2.2.2.1.take _) (by have := HX.out.2.2.2.2.1; simp; omega)).mono ?_
  rintro e w6 ⟨v6, rfl, hd6, hb6⟩
  have H6 : Hid (HashIs w6 g3 alg (A.take n) ∧ Below w2.heap.size w2 w6 ∧ Below w.heap.size w w6 ∧ Dg w5.heap.size w6 v6 (dig alg (A.take n)) ∧ g3 < w5.heap.size) := ⟨H5.out.1.below hb6 H5.out.1.lt, below_via H5.out.2.1 hb6 (Nat.le_refl _), below_via H5.out.2.2 hb6 (Nat.le_refl _), hd6, H5.out.1.lt⟩
  clear hd6 hb6
  go_wp2_with (first | (go_at_call 16; refine (num_any _ _).mono ?_; rintro e w' ⟨rfl, rfl⟩) | (go_at_call 17; refine (HSz.out _).mono ?_; rintro e w' ⟨rfl, rfl⟩))
  refine (Write_any (w := w6) g3 alg ha (A.take n) (A.drop n) H6.out.1 (by have := H2.out.1.size; omega) (HX.out.2.2.2.2.2.2.below H6.out.2.2.1) _ (HX.out.2.2.1.xg H6.out.2.2.1 (Nat.le_trans H2.out.1.size hg3)) (HX.out.2.2.2.2.2.1.take _) (HX.out.2.2.2.2.2.1.drop _) (by have := HX.out.2.2.2.2.1; simp <;> omega) (by have := HX.out.2.2.2.2.1; simp <;> omega) (by have := HX.out.2.2.2.2.1; simp <;> omega)).mono ?_
  rintro e w7 ⟨rfl, hh, hu⟩
  rw [List.take_append_drop] at hh
  have H7 : Hid (HashIs w7 g3 alg A ∧ Below w2.heap.size w2 w7 ∧ Below w.heap.size w w7 ∧ Sl .u8 w7 v6 (dig alg (A.take n))) := by
    refine ⟨hh, hu.below H6.out.2.1 H6.out.2.1.size hg3, hu.below H6.out.2.2.1 H6.out.2.2.1.size (Nat.le_trans H2.out.1.size hg3), ?_⟩
    obtain ⟨d, m, e1, e2, e3, e4⟩ := H6.out.2.2.2.1
    have e5 := hu.arr e4 (by have := H6.out.2.2.2.2; omega)
    rw [e1, ← e2]; exact e5.sl
  clear hh hu
  go_wp2_with (first | (go_at_call 16; refine (num_any _ _).mono ?_; rintro e w' ⟨rfl, rfl⟩) | (go_at_call 17; refine (HSz.out _).mono ?_; rintro e w' ⟨rfl, rfl⟩))
  refine (Sum_dg (w := w7.alloc _) alg ha (HX.out.2.2.2.2.2.2.below (below_via H7.out.2.2.1 (al1 _) (Nat.le_refl _))) _ _ [A.take n] (A.take n) (by simp) (sls1 _) (msgs1 (below_sl (below_via H7.out.2.2.1 (al1 _) (Nat.le_refl _)) HX.out.2.1) (HX.out.2.2.2.2.2.1.take _)) (by have := HX.out.2.2.2.2.1; simp; omega) (by simp)).mono ?_
  rintro e w8 ⟨v8, rfl, hd8, hb8⟩
  have H8 : Hid (HashIs w8 g3 alg A ∧ Below w2.heap.size w2 w8 ∧ Below w.heap.size w w8 ∧ Sl .u8 w8 v6 (dig alg (A.take n)) ∧ Sl .u8 w8 v8 (dig alg (A.take n))) := by
    have hb : Below w7.heap.size w7 w8 := below_via (al1 _) hb8 (Nat.le_refl _)
    exact ⟨H7.out.1.below hb H7.out.1.lt, below_via H7.out.2.1 hb (Nat.le_refl _), below_via H7.out.2.2.1 hb (Nat.le_refl _), below_sl hb H7.out.2.2.2, hd8.sl⟩
  clear hd8 hb8
  go_wp2_with (first | (go_at_call 16; refine (num_any _ _).mono ?_; rintro e w' ⟨rfl, rfl⟩) | (go_at_call 17; refine (HSz.out _).mono ?_; rintro e w' ⟨rfl, rfl⟩))
  refine (SameBytes_any _ _ D (below_sl H8.out.2.1 H2.out.2.1) (below_sl H8.out.2.1 H2.out.2.2) (by have := HD.out.2; omega)).mono ?_
  rintro e w9 ⟨rfl, hb9⟩
  have H9 : Hid (HashIs w9 g3 alg A ∧ Below w2.heap.size w2 w9 ∧ Below w.heap.size w w9 ∧ Sl .u8 w9 v6 (dig alg (A.take n)) ∧ Sl .u8 w9 v8 (dig alg (A.take n))) := ⟨H8.out.1.below hb9 H8.out.1.lt, below_via H8.out.2.1 hb9 (Nat.le_refl _), below_via H8.out.2.2.1 hb9 (Nat.le_refl _), below_sl hb9 H8.out.2.2.2.1, below_sl hb9 H8.out.2.2.2.2⟩
  clear hb9
  go_wp2_with (first | (go_at_call 16; refine (num_any _ _).mono ?_; rintro e w' ⟨rfl, rfl⟩) | (go_at_call 17; refine (HSz.out _).mono ?_; rintro e w' ⟨rfl, rfl⟩))
  refine (SumM_dg g3 alg ha A H9.out.1 (HX.out.2.2.2.2.2.2.below H9.out.2.2.1) HX.out.2.2.2.2.2.1 (by have := HX.out.2.2.2.2.1; omega)).mono ?_
  rintro e w10 ⟨v10, rfl, hd, hb⟩
  rw [HD.out.1] at hd
  have H10 : Hid (Below w2.heap.size w2 w10 ∧ Below w.heap.size w w10 ∧ Sl .u8 w10 v6 (dig alg (A.take n)) ∧ Sl .u8 w10 v8 (dig alg (A.take n)) ∧ Sl .u8 w10 v10 D) := ⟨below_via H9.out.2.1 hb (Nat.le_refl _), below_via H9.out.2.2.1 hb (Nat.le_refl _), below_sl hb H9.out.2.2.2.1, below_sl hb H9.out.2.2.2.2, hd.sl⟩
  clear hd hb
  go_wp2_with (first | (go_at_call 16; refine (num_any _ _).mono ?_; rintro e w' ⟨rfl, rfl⟩) | (go_at_call 17; refine (HSz.out _).mono ?_; rintro e w' ⟨rfl, rfl⟩))
  refine (SameBytes_any _ v10 D (below_sl H10.out.1 H2.out.2.1) H10.out.2.2.2.2 (by have := HD.out.2; omega)).mono ?_
  rintro e w11 ⟨rfl, hb⟩
  have H11 : Hid (Below w.heap.size w w11 ∧ Sl .u8 w11 v6 (dig alg (A.take n)) ∧ Sl .u8 w11 v8 (dig alg (A.take n))) := ⟨below_via H10.out.2.1 hb (Nat.le_refl _), below_sl hb H10.out.2.2.1, below_sl hb H10.out.2.2.2.1⟩
  clear hb
  go_wp2_with (first | (go_at_call 16; refine (num_any _ _).mono ?_; rintro e w' ⟨rfl, rfl⟩) | (go_at_call 17; refine (HSz.out _).mono ?_; rintro e w' ⟨rfl, rfl⟩))
  refine (SameBytes_any v6 v8 _ H11.out.2.1 H11.out.2.2 (dig_short _ _)).mono ?_
  rintro e w12 ⟨rfl, hb⟩
  have H12 : Hid (Below w.heap.size w w12) := below_via H11.out.1 hb (Nat.le_refl _)
  clear hb
  go_wp2_with (first | (go_at_call 16; refine (num_any _ _).mono ?_; rintro e w' ⟨rfl, rfl⟩) | (go_at_call 17; refine (HSz.out _).mono ?_; rintro e w' ⟨rfl, rfl⟩))
  refine (live_any (HX.out.2.2.2.2.2.2.below H12.out)).mono ?_
  rintro e w13 ⟨rfl, hb⟩
  have H13 : Hid (Below w.heap.size w w13) := below_via H12.out hb (Nat.le_refl _)
  clear hb
  go_wp2_with fail
  go_ret
  exact ⟨rfl, H13.out⟩
end Go.Proofs.YtgipmjpkaemdkaaDoor
