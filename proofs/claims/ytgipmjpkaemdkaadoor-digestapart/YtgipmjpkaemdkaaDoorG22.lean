/-
  Digest: the law DigestApart: two digests under way know nothing of one another.
-/
import Derived.Test.YtgipmjpkaemdkaaDoorG21
namespace Go.Proofs.YtgipmjpkaemdkaaDoor
open Go.RowKit
theorem msgs2 {w : World} {v u : Value} {m n : List Int} (h : Sl .u8 w v m) (um : U8s m) (h' : Sl .u8 w u n) (un : U8s n) : Msgs w [v, u] [m, n] := ⟨rfl, fun i hi => by
  match i, hi with
  | 0, _ => exact ⟨h, um⟩
  | 1, _ => exact ⟨h', un⟩⟩
/-- A digest in a block of its own, from B on. -/
def Dg (B : Nat) (w : World) (v : Value) (xs : List Int) : Prop := ∃ d n, v = .slice (some ⟨d, 0, none⟩) n n ∧ xs.length = n ∧ B ≤ d ∧ Arr .u8 5 w d xs
theorem Dg.sl {B : Nat} {w : World} {v : Value} {xs : List Int} (h : Dg B w v xs) : Sl .u8 w v xs := by
  obtain ⟨d, n, rfl, rfl, _, hA⟩ := h; exact hA.sl
theorem Dg.below {B : Nat} {w w' : World} {v : Value} {xs : List Int} (h : Dg B w v xs) (hb : Below w.heap.size w w') : Dg B w' v xs := by
  obtain ⟨d, n, rfl, hn, hB, hA⟩ := h; exact ⟨d, n, rfl, hn, hB, below_arr hb hA.lt hA⟩
theorem dig_len (alg : Int) (msg : List Int) : (dig alg msg).length = siz alg := out_len _ _
theorem dig_short (alg : Int) (msg : List Int) : (dig alg msg).length ≤ 1152921504606846976 := by rw [dig_len]; have := siz_le alg; omega
theorem SumM_dg {w : World} (g : Nat) (alg : Int) (ha : Alg alg) (msg : List Int) (h : HashIs w g alg msg) (hT : Tabs w) (um : U8s msg) (hm : msg.length ≤ 16777216) :
    Calls Tryd.prog 24 #[.pointer (some ⟨g, 0, none⟩)] w fun e w' => ∃ v, e = .returned v ∧ Dg w.heap.size w' v (dig alg msg) ∧ Below w.heap.size w w' :=
  (SumM_any g alg ha msg h hT um hm).mono fun _ _ ⟨d, h1, h2, h3, h4⟩ => ⟨_, h1, ⟨d, _, rfl, dig_len _ _, h2, h3⟩, h4⟩
theorem Sum_dg {w : World} (alg : Int) (ha : Alg alg) (hT : Tabs w) (v : Value) (vs : List Value) (ms : List (List Int)) (M : List Int) (hM : ms.flatten = M) (hv : SlS w v vs) (hm : Msgs w vs ms) (hn : M.length ≤ 16777216) (hk : ms.length ≤ 1152921504606846976) :
    Calls Tryd.prog 12 #[.int .i64 alg, v] w fun e w' => ∃ v, e = .returned (.tuple #[v, .int .i64 0]) ∧ Dg w.heap.size w' v (dig alg M) ∧ Below w.heap.size w w' := by
  subst hM
  exact (Sum_any alg ha hT v vs ms hv hm hn hk).mono fun _ _ ⟨d, h1, h2, h3, h4⟩ => ⟨_, h1, ⟨d, _, rfl, dig_len _ _, h2, h3⟩, h4⟩
theorem sls2 {w : World} {T : TypeId} (v u : Value) : SlS (w.alloc (.cells #[v, u] T)) (.slice (some ⟨w.heap.size, 0, none⟩) 2 2) [v, u] := (Blk.new T w [v, u]).sls
theorem sls1 {w : World} {T : TypeId} (v : Value) : SlS (w.alloc (.cells #[v] T)) (.slice (some ⟨w.heap.size, 0, none⟩) 1 1) [v] := (Blk.new T w [v]).sls
theorem al1 {w : World} (o : Obj) : Below w.heap.size w (w.alloc o) := (Below.refl _ _).alloc (Nat.le_refl _) o
theorem below_via {B : Nat} {w w1 w2 : World} (h : Below B w w1) (h' : Below w1.heap.size w1 w2) (hB : B ≤ w.heap.size) : Below B w w2 := h.trans (h'.mono (Nat.le_trans hB h.size))
set_option maxHeartbeats 2000000 in
theorem DigestApart_main {w : World} (alg other : Int) (ha : Alg alg) (ho : Alg other) (a1 a2 : Option Addr) (n1 n2 c1 c2 : Nat) (A B : List Int) (hA : Sl .u8 w (.slice a1 n1 c1) A) (hB : Sl .u8 w (.slice a2 n2 c2) B) (uA : U8s A) (uB : U8s B) (lA : A.length = n1) (lB : B.length = n2) (s1 : n1 ≤ 65536) (s2 : n2 ≤ 65536) (hT : Tabs w) :
    Calls Tryd.prog 6 #[.int .i64 alg, .int .i64 other, .slice a1 n1 c1, .slice a2 n2 c2] w fun e w' => e = .returned (.bool true) ∧ Below w.heap.size w w' := by
  have hz7 := hT.size
  have HX : Hid (Sl .u8 w (.slice a1 n1 c1) A ∧ Sl .u8 w (.slice a2 n2 c2) B ∧ U8s A ∧ U8s B ∧ A.length = n1 ∧ B.length = n2 ∧ Tabs w) := ⟨hA, hB, uA, uB, lA, lB, hT⟩
  clear hA hB uA uB lA lB hT
  go_enter Tryd.func6, Tryd.ntmps6
  go_wp2_with fail
  refine (New_any alg ha HX.out.2.2.2.2.2.2).mono ?_
  rintro e w1 ⟨g1, rfl, hg1, hh1, hb1⟩
  have H1 : Hid (HashIs w1 g1 alg [] ∧ Below w.heap.size w w1 ∧ Tabs w1 ∧ g1 < w1.heap.size) := ⟨hh1, hb1, HX.out.2.2.2.2.2.2.below hb1, hh1.lt⟩
  clear hh1 hb1
  go_wp2_with fail
  refine (New_any other ho H1.out.2.2.1).mono ?_
  rintro e w2 ⟨g2, rfl, hg2, hh2, hb2⟩
  have H2 : Hid (HashIs w2 g1 alg [] ∧ HashIs w2 g2 other [] ∧ Below w.heap.size w w2 ∧ g1 < w1.heap.size) := ⟨H1.out.1.below hb2 H1.out.2.2.2, hh2, below_via H1.out.2.1 hb2 (Nat.le_refl _), H1.out.2.2.2⟩
  clear hh2 hb2
  go_wp2_with (go_at_call 16; refine (num_any _ _).mono ?_; rintro e w' ⟨rfl, rfl⟩)
  refine (Write_any (w := w2) g1 alg ha [] A H2.out.1 (by have := H2.out.2.2.2; omega) (HX.out.2.2.2.2.2.2.below H2.out.2.2.1) _ (HX.out.1.xg H2.out.2.2.1 (by have := H2.out.2.2.2; omega)) (by intro x hx; simp at hx) HX.out.2.2.1 (by have := HX.out.2.2.2.2.1; have := HX.out.2.2.2.2.2.1; simp <;> omega) (by have := HX.out.2.2.2.2.1; have := HX.out.2.2.2.2.2.1; omega) (by have := HX.out.2.2.2.2.1; have := HX.out.2.2.2.2.2.1; simp <;> omega)).mono ?_
  rintro e w3 ⟨rfl, hh, hu⟩
  have H3 : Hid (HashIs w3 g1 alg A ∧ HashIs w3 g2 other [] ∧ Below w.heap.size w w3 ∧ g1 < w1.heap.size) := ⟨hh, H2.out.2.1.upd hu (by have := H2.out.2.2.2; omega), hu.below H2.out.2.2.1 H2.out.2.2.1.size hg1, H2.out.2.2.2⟩
  clear hh hu
  go_wp2_with (go_at_call 16; refine (num_any _ _).mono ?_; rintro e w' ⟨rfl, rfl⟩)
  refine (Write_any (w := w3) g2 other ho [] B H3.out.2.1 (by have := H3.out.2.2.2; omega) (HX.out.2.2.2.2.2.2.below H3.out.2.2.1) _ (HX.out.2.1.xg H3.out.2.2.1 (by have := H3.out.2.2.2; omega)) (by intro x hx; simp at hx) HX.out.2.2.2.1 (by have := HX.out.2.2.2.2.1; have := HX.out.2.2.2.2.2.1; simp <;> omega) (by have := HX.out.2.2.2.2.1; have := HX.out.2.2.2.2.2.1; omega) (by have := HX.out.2.2.2.2.1; have := HX.out.2.2.2.2.2.1; simp <;> omega)).mono ?_
  rintro e w4 ⟨rfl, hh, hu⟩
  have H4 : Hid (HashIs w4 g1 alg A ∧ HashIs w4 g2 other B ∧ Below w.heap.size w w4 ∧ g1 < w1.heap.size) := ⟨H3.out.1.upd hu (by have := H3.out.2.2.2; omega), hh, hu.below H3.out.2.2.1 H3.out.2.2.1.size (by have := H3.out.2.2.2; omega), H3.out.2.2.2⟩
  clear hh hu
  go_wp2_with (go_at_call 16; refine (num_any _ _).mono ?_; rintro e w' ⟨rfl, rfl⟩)
  refine (Write_any (w := w4) g1 alg ha A B H4.out.1 (by have := H4.out.2.2.2; omega) (HX.out.2.2.2.2.2.2.below H4.out.2.2.1) _ (HX.out.2.1.xg H4.out.2.2.1 (by have := H4.out.2.2.2; omega)) HX.out.2.2.1 HX.out.2.2.2.1 (by have := HX.out.2.2.2.2.1; have := HX.out.2.2.2.2.2.1; omega) (by have := HX.out.2.2.2.2.1; have := HX.out.2.2.2.2.2.1; omega) (by have := HX.out.2.2.2.2.1; have := HX.out.2.2.2.2.2.1; omega)).mono ?_
  rintro e w5 ⟨rfl, hh, hu⟩
  have H5 : Hid (HashIs w5 g1 alg (A ++ B) ∧ HashIs w5 g2 other B ∧ Below w.heap.size w w5 ∧ g1 < w1.heap.size) := ⟨hh, H4.out.2.1.upd hu (by have := H4.out.2.2.2; omega), hu.below H4.out.2.2.1 H4.out.2.2.1.size hg1, H4.out.2.2.2⟩
  clear hh hu
  go_wp2_with (go_at_call 16; refine (num_any _ _).mono ?_; rintro e w' ⟨rfl, rfl⟩)
  refine (Write_any (w := w5) g2 other ho B A H5.out.2.1 (by have := H5.out.2.2.2; omega) (HX.out.2.2.2.2.2.2.below H5.out.2.2.1) _ (HX.out.1.xg H5.out.2.2.1 (by have := H5.out.2.2.2; omega)) HX.out.2.2.2.1 HX.out.2.2.1 (by have := HX.out.2.2.2.2.1; have := HX.out.2.2.2.2.2.1; omega) (by have := HX.out.2.2.2.2.1; have := HX.out.2.2.2.2.2.1; omega) (by have := HX.out.2.2.2.2.1; have := HX.out.2.2.2.2.2.1; omega)).mono ?_
  rintro e w6 ⟨rfl, hh, hu⟩
  have H6 : Hid (HashIs w6 g1 alg (A ++ B) ∧ HashIs w6 g2 other (B ++ A) ∧ Below w.heap.size w w6 ∧ g1 < w1.heap.size) := ⟨H5.out.1.upd hu (by have := H5.out.2.2.2; omega), hh, hu.below H5.out.2.2.1 H5.out.2.2.1.size (by have := H5.out.2.2.2; omega), H5.out.2.2.2⟩
  clear hh hu
  go_wp2_with (go_at_call 16; refine (num_any _ _).mono ?_; rintro e w' ⟨rfl, rfl⟩)
  refine (Sum_dg (w := w6.alloc _) alg ha (HX.out.2.2.2.2.2.2.below (below_via H6.out.2.2.1 (al1 _) (Nat.le_refl _))) _ _ [A, B] (A ++ B) (by simp) (sls2 _ _) (msgs2 (below_sl (below_via H6.out.2.2.1 (al1 _) (Nat.le_refl _)) HX.out.1) HX.out.2.2.1 (below_sl (below_via H6.out.2.2.1 (al1 _) (Nat.le_refl _)) HX.out.2.1) HX.out.2.2.2.1) (by have := HX.out.2.2.2.2.1; have := HX.out.2.2.2.2.2.1; simp; omega) (by simp)).mono ?_
  rintro e w7 ⟨v7, rfl, hd7, hb7⟩
  have H7 : Hid (HashIs w7 g1 alg (A ++ B) ∧ HashIs w7 g2 other (B ++ A) ∧ Below w.heap.size w w7 ∧ g1 < w1.heap.size ∧ Dg w.heap.size w7 v7 (dig alg (A ++ B))) := by
    have hb : Below w6.heap.size w6 w7 := below_via (al1 _) hb7 (Nat.le_refl _)
    obtain ⟨d, n, e1, e2, e3, e4⟩ := hd7
    exact ⟨H6.out.1.below hb H6.out.1.lt, H6.out.2.1.below hb H6.out.2.1.lt, below_via H6.out.2.2.1 hb (Nat.le_refl _), H6.out.2.2.2, ⟨d, n, e1, e2, by have := H6.out.2.2.1.size; simp at e3; omega, e4⟩⟩
  clear hd7 hb7
  go_wp2_with (go_at_call 16; refine (num_any _ _).mono ?_; rintro e w' ⟨rfl, rfl⟩)
  refine (Sum_dg (w := w7.alloc _) other ho (HX.out.2.2.2.2.2.2.below (below_via H7.out.2.2.1 (al1 _) (Nat.le_refl _))) _ _ [B, A] (B ++ A) (by simp) (sls2 _ _) (msgs2 (below_sl (below_via H7.out.2.2.1 (al1 _) (Nat.le_refl _)) HX.out.2.1) HX.out.2.2.2.1 (below_sl (below_via H7.out.2.2.1 (al1 _) (Nat.le_refl _)) HX.out.1) HX.out.2.2.1) (by have := HX.out.2.2.2.2.1; have := HX.out.2.2.2.2.2.1; simp; omega) (by simp)).mono ?_
  rintro e w8 ⟨v8, rfl, hd8, hb8⟩
  have H8 : Hid (HashIs w8 g1 alg (A ++ B) ∧ HashIs w8 g2 other (B ++ A) ∧ Below w.heap.size w w8 ∧ Sl .u8 w8 v7 (dig alg (A ++ B)) ∧ Sl .u8 w8 v8 (dig other (B ++ A))) := by
    have hb : Below w7.heap.size w7 w8 := below_via (al1 _) hb8 (Nat.le_refl _)
    exact ⟨H7.out.1.below hb H7.out.1.lt, H7.out.2.1.below hb H7.out.2.1.lt, below_via H7.out.2.2.1 hb (Nat.le_refl _), (H7.out.2.2.2.2.below hb).sl, hd8.sl⟩
  clear hd8 hb8
  go_wp2_with (go_at_call 16; refine (num_any _ _).mono ?_; rintro e w' ⟨rfl, rfl⟩)
  refine (SumM_dg g1 alg ha (A ++ B) H8.out.1 (HX.out.2.2.2.2.2.2.below H8.out.2.2.1) (HX.out.2.2.1.append HX.out.2.2.2.1) (by have := HX.out.2.2.2.2.1; have := HX.out.2.2.2.2.2.1; simp; omega)).mono ?_
  rintro e w9 ⟨v9, rfl, hd9, hb9⟩
  have H9 : Hid (HashIs w9 g1 alg (A ++ B) ∧ HashIs w9 g2 other (B ++ A) ∧ Below w.heap.size w w9 ∧ Sl .u8 w9 v7 (dig alg (A ++ B)) ∧ Sl .u8 w9 v8 (dig other (B ++ A)) ∧ Sl .u8 w9 v9 (dig alg (A ++ B))) :=
    ⟨H8.out.1.below hb9 H8.out.1.lt, H8.out.2.1.below hb9 H8.out.2.1.lt, below_via H8.out.2.2.1 hb9 (Nat.le_refl _), below_sl hb9 H8.out.2.2.2.1, below_sl hb9 H8.out.2.2.2.2, hd9.sl⟩
  clear hd9 hb9
  go_wp2_with (go_at_call 16; refine (num_any _ _).mono ?_; rintro e w' ⟨rfl, rfl⟩)
  refine (SameBytes_any v9 v7 _ H9.out.2.2.2.2.2 H9.out.2.2.2.1 (dig_short _ _)).mono ?_
  rintro e w10 ⟨rfl, hb10⟩
  have H10 : Hid (HashIs w10 g1 alg (A ++ B) ∧ HashIs w10 g2 other (B ++ A) ∧ Below w.heap.size w w10 ∧ Sl .u8 w10 v8 (dig other (B ++ A))) :=
    ⟨H9.out.1.below hb10 H9.out.1.lt, H9.out.2.1.below hb10 H9.out.2.1.lt, below_via H9.out.2.2.1 hb10 (Nat.le_refl _), below_sl hb10 H9.out.2.2.2.2.1⟩
  clear hb10
  go_wp2_with (go_at_call 16; refine (num_any _ _).mono ?_; rintro e w' ⟨rfl, rfl⟩)
  refine (SumM_dg g2 other ho (B ++ A) H10.out.2.1 (HX.out.2.2.2.2.2.2.below H10.out.2.2.1) (HX.out.2.2.2.1.append HX.out.2.2.1) (by have := HX.out.2.2.2.2.1; have := HX.out.2.2.2.2.2.1; simp; omega)).mono ?_
  rintro e w11 ⟨v11, rfl, hd11, hb11⟩
  have H11 : Hid (HashIs w11 g1 alg (A ++ B) ∧ Below w.heap.size w w11 ∧ Sl .u8 w11 v8 (dig other (B ++ A)) ∧ Sl .u8 w11 v11 (dig other (B ++ A))) :=
    ⟨H10.out.1.below hb11 H10.out.1.lt, below_via H10.out.2.2.1 hb11 (Nat.le_refl _), below_sl hb11 H10.out.2.2.2, hd11.sl⟩
  clear hd11 hb11
  go_wp2_with (go_at_call 16; refine (num_any _ _).mono ?_; rintro e w' ⟨rfl, rfl⟩)
  refine (SameBytes_any v11 v8 _ H11.out.2.2.2 H11.out.2.2.1 (dig_short _ _)).mono ?_
  rintro e w12 ⟨rfl, hb12⟩
  have H12 : Hid (HashIs w12 g1 alg (A ++ B) ∧ Below w.heap.size w w12) := ⟨H11.out.1.below hb12 H11.out.1.lt, below_via H11.out.2.1 hb12 (Nat.le_refl _)⟩
  clear hb12
  go_wp2_with (go_at_call 16; refine (num_any _ _).mono ?_; rintro e w' ⟨rfl, rfl⟩)
  refine (Len_any g1 alg (A ++ B) H12.out.1).mono ?_
  rintro e w13 ⟨rfl, rfl⟩
  rw [show ((A ++ B).length : Int) = (n1 : Int) + (n2 : Int) by have := HX.out.2.2.2.2.1; have := HX.out.2.2.2.2.2.1; simp; omega]
  go_wp2_with (go_at_call 16; refine (num_any _ _).mono ?_; rintro e w' ⟨rfl, rfl⟩)
  refine (live_any (HX.out.2.2.2.2.2.2.below H12.out.2)).mono ?_
  rintro e w14 ⟨rfl, hb14⟩
  have H14 : Hid (Below w.heap.size w w14) := below_via H12.out.2 hb14 (Nat.le_refl _)
  clear hb14
  go_wp2_with fail
  go_ret
  exact ⟨rfl, H14.out⟩

set_option maxHeartbeats 1000000 in
theorem DigestApart_any {w : World} (alg other : Int) (a1 a2 : Option Addr) (n1 n2 c1 c2 : Nat) (A B : List Int) (hA : Sl .u8 w (.slice a1 n1 c1) A) (hB : Sl .u8 w (.slice a2 n2 c2) B) (uA : U8s A) (uB : U8s B) (lA : A.length = n1) (lB : B.length = n2) (hT : Tabs w) :
    Calls Tryd.prog 6 #[.int .i64 alg, .int .i64 other, .slice a1 n1 c1, .slice a2 n2 c2] w fun e w' => e = .returned (.bool true) ∧ Below w.heap.size w w' := by
  by_cases s1 : ¬ n1 ≤ 65536
  · have h1 : (65536 : Int) < (n1 : Int) := by omega
    have HT : Hid (Tabs w) := hT
    clear hA hB uA uB lA lB hT
    go_enter Tryd.func6, Tryd.ntmps6
    go_wp2_with (go_at_call 10; refine (live_any HT.out).mono ?_; rintro e w2 ⟨rfl, hb⟩)
    go_ret
    exact ⟨rfl, hb⟩
  replace s1 := Decidable.not_not.1 s1
  by_cases s2 : ¬ n2 ≤ 65536
  · have h1 : (65536 : Int) < (n2 : Int) := by omega
    have h2 : (n1 : Int) ≤ 65536 := by omega
    have HT : Hid (Tabs w) := hT
    clear hA hB uA uB lA lB hT
    go_enter Tryd.func6, Tryd.ntmps6
    go_wp2_with (go_at_call 10; refine (live_any HT.out).mono ?_; rintro e w2 ⟨rfl, hb⟩)
    go_ret
    exact ⟨rfl, hb⟩
  replace s2 := Decidable.not_not.1 s2
  by_cases ha : Alg alg
  · by_cases ho : Alg other
    · exact DigestApart_main alg other ha ho a1 a2 n1 n2 c1 c2 A B hA hB uA uB lA lB s1 s2 hT
    · have HT : Hid (Tabs w) := hT
      clear hA hB uA uB lA lB hT
      go_enter Tryd.func6, Tryd.ntmps6
      go_wp2_with fail
      refine (New_any alg ha HT.out).mono ?_
      rintro e w1 ⟨g1, rfl, _, hh1, hb1⟩
      have H1 : Hid (Below w.heap.size w w1) := hb1
      clear hh1 hb1
      go_wp2_with fail
      refine (New_no other ho).mono ?_
      rintro e w2 ⟨rfl, hb2⟩
      have H2 : Hid (Below w.heap.size w w2) := below_via H1.out hb2 (Nat.le_refl _)
      clear hb2
      go_wp2_with (first
        | (go_at_call 16; refine (num_any _ _).mono ?_; rintro e w' ⟨rfl, rfl⟩)
        | (go_at_call 10; refine (live_any (HT.out.below H2.out)).mono ?_; rintro e w3 ⟨rfl, hb⟩))
      go_ret
      exact ⟨rfl, below_via H2.out hb (Nat.le_refl _)⟩
  · by_cases ho : Alg other
    · have HT : Hid (Tabs w) := hT
      clear hA hB uA uB lA lB hT
      go_enter Tryd.func6, Tryd.ntmps6
      go_wp2_with fail
      refine (New_no alg ha).mono ?_
      rintro e w1 ⟨rfl, hb1⟩
      have H1 : Hid (Below w.heap.size w w1) := hb1
      clear hb1
      go_wp2_with fail
      refine (New_any other ho (HT.out.below H1.out)).mono ?_
      rintro e w2 ⟨g2, rfl, _, hh2, hb2⟩
      have H2 : Hid (Below w.heap.size w w2) := below_via H1.out hb2 (Nat.le_refl _)
      clear hh2 hb2
      go_wp2_with (first
        | (go_at_call 16; refine (num_any _ _).mono ?_; rintro e w' ⟨rfl, rfl⟩)
        | (go_at_call 10; refine (live_any (HT.out.below H2.out)).mono ?_; rintro e w3 ⟨rfl, hb⟩))
      go_ret
      exact ⟨rfl, below_via H2.out hb (Nat.le_refl _)⟩
    · have HT : Hid (Tabs w) := hT
      clear hA hB uA uB lA lB hT
      go_enter Tryd.func6, Tryd.ntmps6
      go_wp2_with fail
      refine (New_no alg ha).mono ?_
      rintro e w1 ⟨rfl, hb1⟩
      have H1 : Hid (Below w.heap.size w w1) := hb1
      clear hb1
      go_wp2_with fail
      refine (New_no other ho).mono ?_
      rintro e w2 ⟨rfl, hb2⟩
      have H2 : Hid (Below w.heap.size w w2) := below_via H1.out hb2 (Nat.le_refl _)
      clear hb2
      go_wp2_with (first
        | (go_at_call 16; refine (num_any _ _).mono ?_; rintro e w' ⟨rfl, rfl⟩)
        | (go_at_call 10; refine (live_any (HT.out.below H2.out)).mono ?_; rintro e w3 ⟨rfl, hb⟩))
      go_ret
      exact ⟨rfl, below_via H2.out hb (Nat.le_refl _)⟩
end Go.Proofs.YtgipmjpkaemdkaaDoor
