/-
  Der: decimal digits appended; the page's example of an object identifier.
-/
import Derived.Laws.BytesArg
import Derived.Test.YtillkhjihggcjaaGreatDoorK9
namespace Go.Proofs.YtillkhjihggcjaaGreatDoor
open Go.RowKit
theorem src_49 {w : World} : Src Tryz.prog 1 9 (.string ⟨#[49]⟩) [(49 : Int)].length ([(49 : Int)].map (Value.int .u8)) w := Src.ofString w Tryz.str ⟨#[49]⟩
theorem src_50 {w : World} : Src Tryz.prog 1 9 (.string ⟨#[50]⟩) [(50 : Int)].length ([(50 : Int)].map (Value.int .u8)) w := Src.ofString w Tryz.str ⟨#[50]⟩
set_option maxHeartbeats 1000000 in
theorem AppI_1 {w : World} (v : Value) (B n : Nat) (X : List Int) (hX : Row .u8 5 B w v X) (hn : X.length = n) (hl : n ≤ 1000) (hB : B ≤ w.heap.size) :
    Calls Tryz.prog 130 #[v, .int .u64 1, .int .i64 10] w fun e w' => ∃ r, e = .returned r ∧ Row .u8 5 B w' r (X ++ [49]) ∧ Below B w w' := by
  obtain ⟨a, c, hv⟩ := hX.ne
  rw [hn] at hv
  subst hv
  have HX : Hid (Row .u8 5 B w (.slice a n c) X ∧ X.length = n) := ⟨hX, hn⟩
  clear hX hn
  go_enter Tryz.func130, Tryz.ntmps130
  go_wp2_with (first
    | (go_at_call 143; refine small_1.mono ?_; rintro e w' ⟨rfl, rfl⟩)
    | (at_builtin; refine wpList_ap rfl (.tmp 13) (.tmp 16) 22 9 rfl .u8 5 1 Tryz.und8 Tryz.info8 (by decide) B _ X rfl HX.out.1 _ [49] rfl src_49 (by have := HX.out.2; simp; omega) hB ?_; intro v1 w1 hr hg))
  have hb := hg.below HX.out.1 hB
  go_ret
  exact ⟨_, rfl, hr, hb⟩
set_option maxHeartbeats 1000000 in
theorem AppI_2 {w : World} (v : Value) (B n : Nat) (X : List Int) (hX : Row .u8 5 B w v X) (hn : X.length = n) (hl : n ≤ 1000) (hB : B ≤ w.heap.size) :
    Calls Tryz.prog 130 #[v, .int .u64 2, .int .i64 10] w fun e w' => ∃ r, e = .returned r ∧ Row .u8 5 B w' r (X ++ [50]) ∧ Below B w w' := by
  obtain ⟨a, c, hv⟩ := hX.ne
  rw [hn] at hv
  subst hv
  have HX : Hid (Row .u8 5 B w (.slice a n c) X ∧ X.length = n) := ⟨hX, hn⟩
  clear hX hn
  go_enter Tryz.func130, Tryz.ntmps130
  go_wp2_with (first
    | (go_at_call 143; refine small_2.mono ?_; rintro e w' ⟨rfl, rfl⟩)
    | (at_builtin; refine wpList_ap rfl (.tmp 13) (.tmp 16) 22 9 rfl .u8 5 1 Tryz.und8 Tryz.info8 (by decide) B _ X rfl HX.out.1 _ [50] rfl src_50 (by have := HX.out.2; simp; omega) hB ?_; intro v1 w1 hr hg))
  have hb := hg.below HX.out.1 hB
  go_ret
  exact ⟨_, rfl, hr, hb⟩
set_option maxRecDepth 20000 in
set_option maxHeartbeats 2000000 in
theorem AppI_840 {w : World} (v : Value) (B n : Nat) (X : List Int) (hT : Tab w) (hX : Row .u8 5 B w v X) (hn : X.length = n) (hl : n ≤ 1000) (hB : B ≤ w.heap.size) :
    Calls Tryz.prog 130 #[v, .int .u64 840, .int .i64 10] w fun e w' => ∃ r, e = .returned r ∧ Row .u8 5 B w' r (X ++ [56, 52, 48]) ∧ Below B w w' := by
  obtain ⟨a, c, hv⟩ := hX.ne
  rw [hn] at hv
  subst hv
  have HX : Hid (Row .u8 5 B w (.slice a n c) X ∧ X.length = n ∧ Tab w) := ⟨hX, hn, hT⟩
  clear hX hn hT
  go_enter Tryz.func130, Tryz.ntmps130
  go_wp2_with (go_at_call 144; refine (numDigits_840 (HX.out.2.2.below (al1 _))).mono ?_; rintro e w' ⟨rfl, rfl⟩)
  refine (format_840 w.heap.size 24 215 (List.replicate 24 (Value.int .u8 0)) (Blk.new _ w _) (by simp)).mono ?_
  rintro e w1 ⟨⟨u, rfl⟩, hu, c0, c1, c2⟩
  have hbw : Below w.heap.size w w1 := hu.below (al1 _) (al1 _).size (Nat.le_refl _)
  have hlt : w.heap.size < w1.heap.size := Nat.lt_of_lt_of_le (by simp) hu.size
  have hS : Sl .u8 w1 (.slice (some ⟨w.heap.size, 0, none⟩) 3 24) [56, 52, 48] := by
    refine ⟨_, _, rfl, by simp, .inr ⟨w.heap.size, 0, rfl, hlt, fun i hi => ?_⟩⟩
    have : i = 0 ∨ i = 1 ∨ i = 2 := by simp at hi; omega
    rcases this with rfl | rfl | rfl <;> assumption
  have H1 : Hid (Below w.heap.size w w1 ∧ Sl .u8 w1 (.slice (some ⟨w.heap.size, 0, none⟩) 3 24) [56, 52, 48]) := ⟨hbw, hS⟩
  clear hu c0 c1 c2 hS hbw
  go_wp2_with (at_builtin; refine wpList_ap rfl (.tmp 24) (.tmp 26) 22 22 rfl .u8 5 1 Tryz.und8 Tryz.info8 (by decide) B _ X rfl (HX.out.1.below H1.out.1) _ [56, 52, 48] rfl (src_sl Tryz.und8 H1.out.2) (by have := HX.out.2.1; simp; omega) (Nat.le_trans hB H1.out.1.size) ?_; intro v1 w2 hr hg)
  have hb := hg.below (HX.out.1.below H1.out.1) (Nat.le_trans hB H1.out.1.size)
  go_ret
  exact ⟨_, rfl, hr, (H1.out.1.mono hB).trans hb⟩
end Go.Proofs.YtillkhjihggcjaaGreatDoor
/-
  Der: the page's example of an object identifier.
-/
namespace Go.Proofs.YtillkhjihggcjaaGreatDoor
open Go.RowKit
set_option maxHeartbeats 1000000 in
theorem AppS_1 {w : World} (v : Value) (B n : Nat) (X : List Int) (hX : Row .u8 5 B w v X) (hn : X.length = n) (hl : n ≤ 1000) (hB : B ≤ w.heap.size) :
    Calls Tryz.prog 113 #[v, .int .u64 1, .int .i64 10] w fun e w' => ∃ r, e = .returned r ∧ Row .u8 5 B w' r (X ++ [49]) ∧ Below B w w' := by
  have HC : Hid (Calls Tryz.prog 130 #[v, .int .u64 1, .int .i64 10] w fun e w' => ∃ r, e = .returned r ∧ Row .u8 5 B w' r (X ++ [49]) ∧ Below B w w') := AppI_1 v B n X hX hn hl hB
  go_enter Tryz.func113, Tryz.ntmps113
  go_wp2_with fail
  refine HC.out.mono ?_
  rintro e w1 ⟨r, rfl, hr, hb⟩
  go_wp2
  go_ret
  exact ⟨_, rfl, hr, hb⟩
set_option maxHeartbeats 1000000 in
theorem AppS_2 {w : World} (v : Value) (B n : Nat) (X : List Int) (hX : Row .u8 5 B w v X) (hn : X.length = n) (hl : n ≤ 1000) (hB : B ≤ w.heap.size) :
    Calls Tryz.prog 113 #[v, .int .u64 2, .int .i64 10] w fun e w' => ∃ r, e = .returned r ∧ Row .u8 5 B w' r (X ++ [50]) ∧ Below B w w' := by
  have HC : Hid (Calls Tryz.prog 130 #[v, .int .u64 2, .int .i64 10] w fun e w' => ∃ r, e = .returned r ∧ Row .u8 5 B w' r (X ++ [50]) ∧ Below B w w') := AppI_2 v B n X hX hn hl hB
  go_enter Tryz.func113, Tryz.ntmps113
  go_wp2_with fail
  refine HC.out.mono ?_
  rintro e w1 ⟨r, rfl, hr, hb⟩
  go_wp2
  go_ret
  exact ⟨_, rfl, hr, hb⟩
set_option maxHeartbeats 1000000 in
theorem AppS_840 {w : World} (v : Value) (B n : Nat) (X : List Int) (hT : Tab w) (hX : Row .u8 5 B w v X) (hn : X.length = n) (hl : n ≤ 1000) (hB : B ≤ w.heap.size) :
    Calls Tryz.prog 113 #[v, .int .u64 840, .int .i64 10] w fun e w' => ∃ r, e = .returned r ∧ Row .u8 5 B w' r (X ++ [56, 52, 48]) ∧ Below B w w' := by
  have HC : Hid (Calls Tryz.prog 130 #[v, .int .u64 840, .int .i64 10] w fun e w' => ∃ r, e = .returned r ∧ Row .u8 5 B w' r (X ++ [56, 52, 48]) ∧ Below B w w') := AppI_840 v B n X hT hX hn hl hB
  go_enter Tryz.func113, Tryz.ntmps113
  go_wp2_with fail
  refine HC.out.mono ?_
  rintro e w1 ⟨r, rfl, hr, hb⟩
  go_wp2
  go_ret
  exact ⟨_, rfl, hr, hb⟩
theorem Max_live {w : World} (b c : Nat) (x y : Int) (hxy : x < y) (h0 : w.cell? ⟨b, 0, none⟩ = some (.int .u64 x)) (h1 : w.cell? ⟨b, 1, none⟩ = some (.int .u64 y)) :
    Calls Tryz.prog 112 #[.slice (some ⟨b, 0, none⟩) 2 c] w fun e w' => e = .returned (.int .u64 y) ∧ w = w' := by
  have hm : max x y = y := by omega
  go_enter Tryz.func112, Tryz.ntmps112
  go_wp2_with fail
  refine wp_loop_rounds 2 ?_
  rw [rounds_succ]
  go_wp2_with fail
  rw [rounds_succ]
  go_wp2
  go_ret
  exact ⟨rfl, rfl⟩
theorem row_str {w : World} {B : Nat} {v : Value} {xs : List Int} {n : Nat} (h : Row .u8 5 B w v xs) (hn : xs.length = n) (h0 : 0 < n) : ∃ b c, v = .slice (some ⟨b, 0, none⟩) n c ∧ Sem.run Tryz.prog (convert 22 9 (.slice (some ⟨b, 0, none⟩) n c)) w = .ok (.string (strOfNums xs)) w := by
  obtain ⟨b, S, rfl, _, hA, hl, ht, _⟩ := h.open n hn h0
  refine ⟨b, _, rfl, run_convert_bytes_arg w _ _ Tryz.und8 Tryz.e8 b 0 n _ xs hn (fun i hi => ?_) _ Tryz.str⟩
  have e : S.getD i 0 = xs.getD i 0 := by
    rw [List.getD_eq_getElem?_getD, List.getD_eq_getElem?_getD, ← ht, List.getElem?_take, if_pos hi]
  rw [Nat.zero_add, hA.cell i (by omega), e]
set_option maxRecDepth 20000 in
set_option maxHeartbeats 4000000 in
theorem Oid_live {w : World} (b : Nat) (hT : Tab w) (hA : Arr .u8 5 w b [42, 134, 72]) :
    Calls Tryz.prog 93 #[.slice (some ⟨b, 0, none⟩) 3 3] w fun e w' => e = .returned (.tuple #[.string ⟨#[49, 46, 50, 46, 56, 52, 48]⟩, .int .i64 0]) ∧ Below w.heap.size w w' := by
  have HX : Hid (Tab w ∧ Arr .u8 5 w b [42, 134, 72]) := ⟨hT, hA⟩
  clear hT hA
  go_enter Tryz.func93, Tryz.ntmps93
  go_wp2_with fail
  refine (laidArcs_live b HX.out.2).mono ?_
  rintro e w1 ⟨r, rfl, hr, hb⟩
  obtain ⟨b1, S1, rfl, hB1, hA1, hl1, ht1, hm1⟩ := hr.open 2 rfl (by omega)
  obtain ⟨k1, hk1⟩ : ∃ k, S1.length = k := ⟨_, rfl⟩
  rw [hk1]
  have g0 : S1.getD 0 0 = 42 := by
    have : (S1.take 2).getD 0 0 = 42 := by rw [ht1]; rfl
    rwa [List.getD_eq_getElem?_getD, List.getElem?_take, if_pos (by omega), ← List.getD_eq_getElem?_getD] at this
  have g1 : S1.getD 1 0 = 840 := by
    have : (S1.take 2).getD 1 0 = 840 := by rw [ht1]; rfl
    rwa [List.getD_eq_getElem?_getD, List.getElem?_take, if_pos (by omega), ← List.getD_eq_getElem?_getD] at this
  have c0 : w1.cell? ⟨b1, 0, none⟩ = some (.int .u64 42) := by rw [hA1.cell 0 (by omega), g0]
  have c1 : w1.cell? ⟨b1, 1, none⟩ = some (.int .u64 840) := by rw [hA1.cell 1 (by omega), g1]
  have f0 := hA1.frozen 0
  have H1 : Hid (Arr .u64 136 w1 b1 S1 ∧ w.heap.size ≤ b1 ∧ Below w.heap.size w w1 ∧ 2 ≤ S1.length ∧ S1.getD 1 0 = 840) := ⟨hA1, hB1, hb, hl1, g1⟩
  clear hr hb hA1 hB1 hl1 ht1 hm1 g0 g1 hk1
  have hx : min (1 : Int) 2 = 1 := by decide
  go_upto_region 6 with (fail)
  refine wp_gen (fun W => Below w.heap.size w W ∧ W.cell? ⟨b1, 0, none⟩ = some (.int .u64 2) ∧ W.cell? ⟨b1, 1, none⟩ = some (.int .u64 840) ∧ b1 < W.heap.size) ?_ ?_
  · have hA := H1.out.1.set 0 2
    have hl := H1.out.2.2.2.1
    refine ⟨(Upd.set w1 b1 0 _).below H1.out.2.2.1 H1.out.2.2.1.size H1.out.2.1, ?_, ?_, hA.lt⟩
    · rw [hA.cell 0 (by rw [List.length_set]; omega), List.getD_eq_getElem?_getD, List.getElem?_set_self (by omega)]; rfl
    · rw [hA.cell 1 (by rw [List.length_set]; omega), List.getD_eq_getElem?_getD, List.getElem?_set_ne (by omega), ← List.getD_eq_getElem?_getD, H1.out.2.2.2.2]
  rintro w2 ⟨hb2, d0, d1, hlt⟩
  have H2 : Hid (Below w.heap.size w w2 ∧ Tab w2) := ⟨hb2, HX.out.1.below hb2⟩
  clear hb2 c0 c1 f0
  go_wp2_with (go_at_call 112; refine (Max_live b1 k1 2 840 (by decide) d0 d1).mono ?_; rintro e w' ⟨rfl, rfl⟩)
  refine (AppS_1 _ w2.heap.size 0 [] (Row.nil _ _ _ _) rfl (by omega) (Nat.le_refl _)).mono ?_
  rintro e w3 ⟨r3, rfl, hr3, hb3⟩
  obtain ⟨a3, c3, hv⟩ := hr3.ne
  replace hv : r3 = .slice a3 1 c3 := hv
  subst hv
  have H3 : Hid (Row .u8 5 w2.heap.size w3 (.slice a3 1 c3) [49] ∧ Below w2.heap.size w2 w3) := ⟨hr3, hb3⟩
  have e0 : w3.cell? ⟨b1, 0, none⟩ = some (.int .u64 2) := by rw [hb3.cell (p := ⟨b1, 0, none⟩) hlt]; exact d0
  clear hr3 hb3
  go_wp2_with fail
  refine wp_loop_rounds 3 ?_
  rw [rounds_succ]
  go_wp2_with (at_builtin; refine wpList_ap rfl (.tmp 40) (.tmp 41) 22 22 rfl .u8 5 1 Tryz.und8 Tryz.info8 (by decide) w2.heap.size _ [49] rfl (H3.out.1.alloc _) _ [46] rfl (src_sl Tryz.und8 (new1 46)) (by decide) (by have := H3.out.2.size; simp; omega) ?_; intro v4 w4 hr hg)
  have hb4 : Below w2.heap.size w2 w4 := (H3.out.2.alloc H3.out.2.size _).trans (hg.below (H3.out.1.alloc _) (by have := H3.out.2.size; simp; omega))
  have H4 : Hid (Row .u8 5 w2.heap.size w4 v4 [49, 46] ∧ Below w2.heap.size w2 w4) := ⟨hr, hb4⟩
  clear hr hg hb4 e0
  refine (AppS_2 v4 w2.heap.size 2 [49, 46] H4.out.1 rfl (by omega) H4.out.2.size).mono ?_
  rintro e w5 ⟨r5, rfl, hr5, hb5⟩
  obtain ⟨a5, c5, hv⟩ := hr5.ne
  replace hv : r5 = .slice a5 3 c5 := hv
  subst hv
  have H5 : Hid (Row .u8 5 w2.heap.size w5 (.slice a5 3 c5) [49, 46, 50] ∧ Below w2.heap.size w2 w5) := ⟨hr5, H4.out.2.trans hb5⟩
  have e1 : w5.cell? ⟨b1, 1, none⟩ = some (.int .u64 840) := by rw [H5.out.2.cell (p := ⟨b1, 1, none⟩) hlt]; exact d1
  clear hr5 hb5
  go_wp2_with fail
  rw [rounds_succ]
  go_wp2_with (at_builtin; refine wpList_ap rfl (.tmp 40) (.tmp 41) 22 22 rfl .u8 5 1 Tryz.und8 Tryz.info8 (by decide) w2.heap.size _ [49, 46, 50] rfl (H5.out.1.alloc _) _ [46] rfl (src_sl Tryz.und8 (new1 46)) (by decide) (by have := H5.out.2.size; simp; omega) ?_; intro v6 w6 hr hg)
  have hb6 : Below w2.heap.size w2 w6 := (H5.out.2.alloc H5.out.2.size _).trans (hg.below (H5.out.1.alloc _) (by have := H5.out.2.size; simp; omega))
  have H6 : Hid (Row .u8 5 w2.heap.size w6 v6 [49, 46, 50, 46] ∧ Below w2.heap.size w2 w6) := ⟨hr, hb6⟩
  clear hr hg hb6 e1
  refine (AppS_840 v6 w2.heap.size 4 [49, 46, 50, 46] (H2.out.2.below H6.out.2) H6.out.1 rfl (by omega) H6.out.2.size).mono ?_
  rintro e w7 ⟨r7, rfl, hr7, hb7⟩
  have H7 : Hid (Below w2.heap.size w2 w7) := H6.out.2.trans hb7
  obtain ⟨b7, c7, hv, hcv⟩ := row_str (n := 7) hr7 rfl (by omega)
  subst hv
  rw [show strOfNums ([49, 46, 50, 46] ++ [56, 52, 48]) = ⟨#[49, 46, 50, 46, 56, 52, 48]⟩ from rfl] at hcv
  clear hr7 hb7
  go_wp2_with fail
  rw [rounds_succ]
  go_wp2
  go_ret2
  exact ⟨rfl, below_via H2.out.1 H7.out (Nat.le_refl _)⟩
end Go.Proofs.YtillkhjihggcjaaGreatDoor
