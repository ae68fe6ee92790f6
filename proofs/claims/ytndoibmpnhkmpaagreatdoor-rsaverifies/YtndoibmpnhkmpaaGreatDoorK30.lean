/-
  Rsa: the reference's Pad.
-/
import Derived.Test.YtndoibmpnhkmpaaGreatDoorK29
namespace Go.Proofs.YtndoibmpnhkmpaaGreatDoor
open Go.RowKit
set_option maxRecDepth 20000
theorem Tryz.one_int : (Tryz.prog.info? 3).map (·.size) = some 1 := by kernel_rfl
theorem RSize8 {w : World} (alg : Int) : Calls Tryz.prog 22 #[.int .i64 alg] w fun e w' => e = .returned (.int .i64 (Sh.siz alg)) ∧ w = w' := by
  unfold Sh.siz
  by_cases h1 : alg = 1
  · subst h1
    have hx : ∀ w' : World, Sem.run Tryz.prog (Instr.index 76 (.agg #[.int .i64 20, .int .i64 32, .int .i64 48, .int .i64 64]) (.int .i64 0)) w' = .ok (.int .i64 20) w' := fun w' => run_index_row w' _ _ 4 .i64 [20, 32, 48, 64] 0 Tryz.underlying76 Tryz.underlying3 Tryz.one_int rfl (by decide)
    go_enter Tryz.func22, Tryz.ntmps22; go_wp2; go_ret; exact ⟨rfl, rfl⟩
  by_cases h2 : alg = 2
  · subst h2
    have hx : ∀ w' : World, Sem.run Tryz.prog (Instr.index 76 (.agg #[.int .i64 20, .int .i64 32, .int .i64 48, .int .i64 64]) (.int .i64 1)) w' = .ok (.int .i64 32) w' := fun w' => run_index_row w' _ _ 4 .i64 [20, 32, 48, 64] 1 Tryz.underlying76 Tryz.underlying3 Tryz.one_int rfl (by decide)
    go_enter Tryz.func22, Tryz.ntmps22; go_wp2; go_ret; exact ⟨rfl, rfl⟩
  by_cases h3 : alg = 3
  · subst h3
    have hx : ∀ w' : World, Sem.run Tryz.prog (Instr.index 76 (.agg #[.int .i64 20, .int .i64 32, .int .i64 48, .int .i64 64]) (.int .i64 2)) w' = .ok (.int .i64 48) w' := fun w' => run_index_row w' _ _ 4 .i64 [20, 32, 48, 64] 2 Tryz.underlying76 Tryz.underlying3 Tryz.one_int rfl (by decide)
    go_enter Tryz.func22, Tryz.ntmps22; go_wp2; go_ret; exact ⟨rfl, rfl⟩
  by_cases h4 : alg = 4
  · subst h4
    have hx : ∀ w' : World, Sem.run Tryz.prog (Instr.index 76 (.agg #[.int .i64 20, .int .i64 32, .int .i64 48, .int .i64 64]) (.int .i64 3)) w' = .ok (.int .i64 64) w' := fun w' => run_index_row w' _ _ 4 .i64 [20, 32, 48, 64] 3 Tryz.underlying76 Tryz.underlying3 Tryz.one_int rfl (by decide)
    go_enter Tryz.func22, Tryz.ntmps22; go_wp2; go_ret; exact ⟨rfl, rfl⟩
  rw [if_neg h1, if_neg h2, if_neg h3, if_neg h4]
  by_cases h5 : alg < 1
  · go_enter Tryz.func22, Tryz.ntmps22; go_wp2; go_ret; exact ⟨rfl, rfl⟩
  · have h6 : 4 < alg := by omega
    go_enter Tryz.func22, Tryz.ntmps22; go_wp2; go_ret; exact ⟨rfl, rfl⟩
theorem ROid8 {w : World} (alg : Int) (ha : Alg4 alg) : Calls Tryz.prog 81 #[.int .i64 alg] w fun e w' => e = .returned (.string (strOfNums (oidY alg))) ∧ w = w' := by
  rcases ha with rfl | rfl | rfl | rfl
  all_goals (go_enter Tryz.func81, Tryz.ntmps81; go_wp2; go_ret; exact ⟨congrArg (fun s => Ending.returned (Value.string s)) (by decide +kernel), rfl⟩)
theorem rput8 {w : World} (tag : Nat) (ht1 : 1 ≤ tag) (ht : tag < 31) (a : Option Addr) (n cp : Nat) (vs : List Value) (ms : List (List Int)) (hL : Lists w a n cp vs ms) (hn : n ≤ 1000) (h128 : ms.flatten.length < 128) (co : Bool) (hc : co = decide (tag = 16)) :
    Calls Tryz.prog 110 #[.int .i64 0, .int .i64 tag, .bool co, .slice a n cp] w fun e w' => ∃ r, e = .returned (.tuple #[r, .int .i64 0]) ∧ Row .u8 5 w.heap.size w' r (elB tag ms.flatten) ∧ Below w.heap.size w w' := by
  obtain ⟨N, hN⟩ : ∃ N, ms.flatten.length = N := ⟨_, rfl⟩
  have hl : ∃ l : Nat, N / 256 ^ l = 0 ∧ (∀ j, j < l → 0 < N / 256 ^ j) ∧ l ≤ 7 := by
    by_cases h0 : N = 0
    · exact ⟨0, by simp [h0], by omega, by omega⟩
    · refine ⟨1, by omega, fun j hj => ?_, by omega⟩
      obtain rfl : j = 0 := by omega
      simp; omega
  obtain ⟨l, hl0, hl1, hl7⟩ := hl
  have hE : headB 0 co tag 0 ++ lenB N l ++ ms.flatten = elB tag ms.flatten := by
    unfold headB lenB elB frst
    have h1 : N < 128 := by omega
    rw [hc, hN]
    by_cases h : tag = 16
    · simp [h, h1]
    · simp [h, h1, ht]
  have := RPut_any (w := w) 0 tag 0 l co a n cp N vs ms hL hN (by omega) (by omega) (by unfold headOk; simp; omega) (by simp; omega) (by omega) (by omega) hl0 hl1 hl7
  rw [hE] at this
  exact this
set_option maxHeartbeats 1000000 in
theorem Prim8 {w : World} (tag : Nat) (ht1 : 1 ≤ tag) (ht : tag < 16) (a : Option Addr) (n cp : Nat) (X : List Int) (hX : Sl .u8 w (.slice a n cp) X) (uX : U8s X) (h128 : X.length < 128) :
    Calls Tryz.prog 82 #[.int .i64 tag, .slice a n cp] w fun e w' => ∃ r, e = .returned r ∧ Row .u8 5 w.heap.size w' r (elB tag X) ∧ Below w.heap.size w w' := by
  have HP : Hid (∀ o, o = .cells #[.slice a n cp] 25 → Calls Tryz.prog 110 #[.int .i64 0, .int .i64 tag, .bool false, .slice (some ⟨w.heap.size, 0, none⟩) 1 1] (w.alloc o) fun e w' => ∃ r, e = .returned (.tuple #[r, .int .i64 0]) ∧ Row .u8 5 w.heap.size w' r (elB tag X) ∧ Below w.heap.size w w') := fun o ho => by
    subst ho
    refine (rput8 tag ht1 (by omega) _ 1 1 _ [X] (lists1 hX uX) (by decide) (by simpa using h128) false (by simp; omega)).mono ?_
    rintro e w' ⟨r, rfl, hr, hb⟩
    refine ⟨r, rfl, ?_, below_via (al1 _) hb (Nat.le_refl _)⟩
    have := hr.mono (B' := w.heap.size) (by simp)
    simpa using this
  clear hX uX
  go_enter Tryz.func82, Tryz.ntmps82
  go_wp2_with (go_at_call 110; refine (HP.out _ rfl).mono ?_; rintro e w2 ⟨r, rfl, hr, hb⟩; have HR : Hid (Row .u8 5 w.heap.size w2 r (elB tag X) ∧ Below w.heap.size w w2) := ⟨hr, hb⟩; clear hr hb)
  go_ret
  exact ⟨r, rfl, HR.out⟩
set_option maxHeartbeats 1000000 in
theorem Seq8 {w : World} (a : Option Addr) (n cp : Nat) (vs : List Value) (ms : List (List Int)) (hL : Lists w a n cp vs ms) (hn : n ≤ 1000) (h128 : ms.flatten.length < 128) :
    Calls Tryz.prog 79 #[.int .i64 16, .slice a n cp] w fun e w' => ∃ r, e = .returned r ∧ Row .u8 5 w.heap.size w' r (elB 16 ms.flatten) ∧ Below w.heap.size w w' := by
  have HP : Hid (∀ w', w' = w → Calls Tryz.prog _ _ w' _) := fun w' hw => by rw [hw]; exact rput8 16 (by decide) (by decide) a n cp vs ms hL hn h128 true (by decide)
  clear hL
  go_enter Tryz.func79, Tryz.ntmps79
  go_wp2_with (go_at_call 110; refine (HP.out _ rfl).mono ?_; rintro e w2 ⟨r, rfl, hr, hb⟩; have HR : Hid (Row .u8 5 w.heap.size w2 r (elB 16 ms.flatten) ∧ Below w.heap.size w w2) := ⟨hr, hb⟩; clear hr hb)
  go_ret
  exact ⟨r, rfl, HR.out⟩
set_option maxHeartbeats 1000000 in
theorem OidOf8 {w : World} (alg : Int) (ha : Alg4 alg) : Calls Tryz.prog 80 #[.string (strOfNums (oidY alg))] w fun e w' => ∃ r, e = .returned r ∧ Row .u8 5 w.heap.size w' r (elB 6 (oidB alg)) ∧ Below w.heap.size w w' := by
  go_enter Tryz.func80, Tryz.ntmps80
  go_wp2_with fail
  refine (RPutOid_any (oidY alg) (oidY_u8 ha).1 (oidY_u8 ha).2).mono ?_
  rintro e w1 ⟨⟨r1, b1, er1, hp, rfl, hs1⟩, hb1⟩
  obtain ⟨rfl, rfl⟩ := hp.uniq (oidR ha)
  obtain ⟨a1, c1, rfl⟩ := hs1.form
  have H1 : Hid (Sl .u8 w1 (.slice a1 (oidB alg).length c1) (oidB alg) ∧ Below w.heap.size w w1) := ⟨hs1, hb1⟩
  clear hs1 hb1 hp
  go_wp2_with (go_at_call 82; refine (Prim8 6 (by decide) (by decide) _ _ _ (oidB alg) H1.out.1 (oidB_u8 ha).1 (by have := (oidB_u8 ha).2; omega)).mono ?_; rintro e w2 ⟨r, rfl, hr, hb⟩; have HR : Hid (Row .u8 5 w.heap.size w2 r (elB 6 (oidB alg)) ∧ Below w.heap.size w w2) := ⟨hr.mono H1.out.2.size, below_via H1.out.2 hb (Nat.le_refl _)⟩; clear hr hb)
  go_ret
  exact ⟨r, rfl, HR.out⟩
end Go.Proofs.YtndoibmpnhkmpaaGreatDoor
/-
  Rsa: the reference's Pad, walked.
-/
namespace Go.Proofs.YtndoibmpnhkmpaaGreatDoor
open Go.RowKit
set_option maxRecDepth 20000
set_option maxHeartbeats 1000000 in
theorem RPad_arg {w : World} (alg : Int) (a : Option Addr) (len cap : Nat) (n : Int) (h : isD alg len = false ∨ 2048 < n) : Calls Tryz.prog 44 #[.int .i64 alg, .slice a len cap, .int .i64 n] w fun e w' => e = .returned (.tuple #[.slice none 0 0, .int .i64 1]) ∧ w' = w := by
  obtain ⟨z, hz⟩ : ∃ z, Sh.siz alg = z := ⟨_, rfl⟩
  have HS : Hid (∀ w' : World, Calls Tryz.prog 22 #[.int .i64 alg] w' fun e w'' => e = .returned (.int .i64 z) ∧ w' = w'') := fun w' => by rw [← hz]; exact RSize8 alg
  have hd : isD alg len = decide (0 < z ∧ len = z) := by unfold isD; rw [hz]
  rw [hd] at h
  clear hd hz
  by_cases h0 : z = 0
  · subst h0
    go_enter Tryz.func44, Tryz.ntmps44
    go_wp2_with (go_at_call 22; refine (HS.out _).mono ?_; rintro e w' ⟨rfl, rfl⟩)
    go_ret2
    exact ⟨rfl, rfl⟩
  have d0 : ((z : Int) == 0) = false := by simp; omega
  by_cases h1 : len = z
  · have h2 : 2048 < n := by rcases h with h | h; simp at h; omega; exact h
    have d1 : ((len : Int) != (z : Int)) = false := by simp [h1]
    have d2 : decide ((2048 : Int) < n) = true := by simpa using h2
    clear h h1
    go_enter Tryz.func44, Tryz.ntmps44
    go_wp2_with (go_at_call 22; refine (HS.out _).mono ?_; rintro e w' ⟨rfl, rfl⟩)
    go_ret2
    exact ⟨rfl, rfl⟩
  · have d1 : ((len : Int) != (z : Int)) = true := by simp; omega
    clear h
    go_enter Tryz.func44, Tryz.ntmps44
    go_wp2_with (go_at_call 22; refine (HS.out _).mono ?_; rintro e w' ⟨rfl, rfl⟩)
    go_ret2
    exact ⟨rfl, rfl⟩
end Go.Proofs.YtndoibmpnhkmpaaGreatDoor
/-
  Rsa: the reference's Pad, where the digest is one.
-/
namespace Go.Proofs.YtndoibmpnhkmpaaGreatDoor
open Go.RowKit
set_option maxRecDepth 20000
theorem isD_len' {alg : Int} {len : Nat} (h : isD alg len = true) : Alg4 alg ∧ len = Sh.siz alg ∧ len ≤ 64 := by
  unfold isD at h
  simp only [decide_eq_true_eq] at h
  exact ⟨siz_pos.1 h.1, h.2, by rw [h.2]; exact Sh.siz_le alg⟩
/-- What the reference's Pad tells. -/
def RPadAns (alg : Int) (X : List Int) (n : Int) (w : World) (e : Ending) (w' : World) : Prop :=
  (n < (namB alg X).length + 11 ∧ e = .returned (.tuple #[.slice none 0 0, .int .i64 2]) ∧ Below w.heap.size w w') ∨
  ((namB alg X).length + 11 ≤ n ∧ ∃ r, e = .returned (.tuple #[r, .int .i64 0]) ∧ Sl .u8 w' r (padB alg X n.toNat) ∧ Below w.heap.size w w')
set_option maxHeartbeats 4000000 in
theorem RPad_any {w : World} (alg : Int) (a : Option Addr) (len cap : Nat) (X : List Int) (hX : Sl .u8 w (.slice a len cap) X) (uX : U8s X) (hl : X.length = len) (hD : isD alg len = true) (n : Int) (hn : n ≤ 2048) :
    Calls Tryz.prog 44 #[.int .i64 alg, .slice a len cap, .int .i64 n] w fun e w' => RPadAns alg X n w e w' := by
  obtain ⟨ha, h0, h64⟩ := isD_len' hD
  have HS : Hid (∀ w' : World, Calls Tryz.prog 22 #[.int .i64 alg] w' fun e w'' => e = .returned (.int .i64 len) ∧ w' = w'') := fun w' => by rw [h0]; exact RSize8 alg
  have hl0 : 0 < len := by rw [h0]; exact siz_pos.2 ha
  have d0 : ((len : Int) == 0) = false := by simp; omega
  have d2 : decide ((2048 : Int) < n) = false := by simp; omega
  have HX : Hid (Sl .u8 w (.slice a len cap) X ∧ U8s X ∧ X.length = len ∧ U8s (oidB alg) ∧ (oidB alg).length ≤ 9) := ⟨hX, uX, hl, (oidB_u8 ha).1, (oidB_u8 ha).2⟩
  clear h0 hX uX hl hD
  go_enter Tryz.func44, Tryz.ntmps44
  go_upto_region 3 with (go_at_call 22; refine (HS.out _).mono ?_; rintro e w' ⟨rfl, rfl⟩)
  go_wp2_with (go_at_call 81; refine (ROid8 alg ha).mono ?_; rintro e w' ⟨rfl, rfl⟩)
  refine (OidOf8 alg ha).mono ?_
  rintro e w2 ⟨r2, rfl, hr2, hb2⟩
  have H2 : Hid (Sl .u8 w2 r2 (elB 6 (oidB alg)) ∧ Below w.heap.size w w2) := ⟨hr2.sl, hb2⟩
  obtain ⟨a2, c2, hf2⟩ := H2.out.1.form
  subst hf2
  clear hr2 hb2
  go_wp2_with fail
  refine (Prim8 5 (by decide) (by decide) none 0 0 [] (nil_sl _) nil_u8 (by decide)).mono ?_
  rintro e w3 ⟨r3, rfl, hr3, hb3⟩
  have H3 : Hid (Sl .u8 w3 (.slice a2 (elB 6 (oidB alg)).length c2) (elB 6 (oidB alg)) ∧ Sl .u8 w3 r3 (elB 5 []) ∧ Below w.heap.size w w3) := ⟨below_sl hb3 H2.out.1, hr3.sl, below_via H2.out.2 hb3 (Nat.le_refl _)⟩
  obtain ⟨a3, c3, hf3⟩ := H3.out.2.1.form
  subst hf3
  clear hr3 hb3
  go_wp2_with fail
  refine (Seq8 _ 2 2 _ [elB 6 (oidB alg), elB 5 []] (lists2 H3.out.1 (elB_u8 (by decide) HX.out.2.2.2.1 (by have := HX.out.2.2.2.2; omega)) H3.out.2.1 (elB_u8 (by decide) nil_u8 (by decide))) (by decide) (by have := HX.out.2.2.2.2; simp [elB_len]; omega)).mono ?_
  rintro e w4 ⟨r4, rfl, hr4, hb4⟩
  have H4 : Hid (Sl .u8 w4 r4 (elB 16 (elB 6 (oidB alg) ++ elB 5 [])) ∧ Below w.heap.size w w4) := ⟨by have := hr4.sl; simpa using this, below_via H3.out.2.2 (below_via (al1 _) hb4 (Nat.le_refl _)) (Nat.le_refl _)⟩
  obtain ⟨a4, c4, hf4⟩ := H4.out.1.form
  subst hf4
  clear hr4 hb4
  go_wp2_with fail
  refine (Prim8 4 (by decide) (by decide) a len cap X (below_sl H4.out.2 HX.out.1) HX.out.2.1 (by have := HX.out.2.2.1; omega)).mono ?_
  rintro e w5 ⟨r5, rfl, hr5, hb5⟩
  have H5 : Hid (Sl .u8 w5 (.slice a4 (elB 16 (elB 6 (oidB alg) ++ elB 5 [])).length c4) (elB 16 (elB 6 (oidB alg) ++ elB 5 [])) ∧ Sl .u8 w5 r5 (elB 4 X) ∧ Below w.heap.size w w5) := ⟨below_sl hb5 H4.out.1, hr5.sl, below_via H4.out.2 hb5 (Nat.le_refl _)⟩
  obtain ⟨a5, c5, hf5⟩ := H5.out.2.1.form
  subst hf5
  clear hr5 hb5
  go_wp2_with fail
  refine (Seq8 _ 2 2 _ [elB 16 (elB 6 (oidB alg) ++ elB 5 []), elB 4 X] (lists2 H5.out.1 (elB_u8 (by decide) ((elB_u8 (by decide) HX.out.2.2.2.1 (by have := HX.out.2.2.2.2; omega)).append (elB_u8 (by decide) nil_u8 (by decide))) (by have := HX.out.2.2.2.2; simp [elB_len]; omega)) H5.out.2.1 (elB_u8 (by decide) HX.out.2.1 (by have := HX.out.2.2.1; omega))) (by decide) (by have := HX.out.2.2.2.2; have := HX.out.2.2.1; simp [elB_len]; omega)).mono ?_
  rintro e w6 ⟨r6, rfl, hr6, hb6⟩
  obtain ⟨t, ht⟩ : ∃ t, (namB alg X).length = t := ⟨_, rfl⟩
  have hsn : Sl .u8 w6 r6 (namB alg X) := by have := hr6.sl; unfold namB; simpa using this
  obtain ⟨a6, c6, hf6⟩ := hsn.form
  rw [ht] at hf6
  subst hf6
  have htl := namB_len alg X
  have H6 : Hid (Sl .u8 w6 (.slice a6 t c6) (namB alg X) ∧ Below w.heap.size w w6 ∧ (namB alg X).length = t) := ⟨hsn, below_via H5.out.2.2 (below_via (al1 _) hb6 (Nat.le_refl _)) (Nat.le_refl _), ht⟩
  have ht2 : t ≤ 200 ∧ 10 ≤ t := by have := HX.out.2.2.2.2; have := HX.out.2.2.1; omega
  clear hr6 hb6 hsn htl ht
  by_cases hs : n < t + 11
  · have hs2 : n < 11 ∨ n - 11 < (t : Int) := by omega
    by_cases hs3 : n < 11
    · have d3 : decide (n < 11) = true := by simpa using hs3
      go_wp2_with fail
      go_ret2
      exact Or.inl ⟨by rw [H6.out.2.2]; exact hs, rfl, H6.out.2.1⟩
    · have d3 : decide (n < 11) = false := by simpa using hs3
      have d4 : decide (n - 11 < (t : Int)) = true := by simp; omega
      go_wp2_with fail
      go_ret2
      exact Or.inl ⟨by rw [H6.out.2.2]; exact hs, rfl, H6.out.2.1⟩
  · obtain ⟨N, rfl⟩ : ∃ N : Nat, n = N := ⟨n.toNat, by omega⟩
    have d3 : decide ((N : Int) < 11) = false := by simp; omega
    have d4 : decide ((N : Int) - 11 < (t : Int)) = false := by simp; omega
    have hNt : t + 11 ≤ N := by omega
    go_wp2_with fail
    obtain ⟨k, hk⟩ : ∃ k, N - t - 1 = k := ⟨_, rfl⟩
    have hkI : (N : Int) - 1 - (t : Int) = (k : Int) := by omega
    have HN : Hid (N = t + 1 + k ∧ 10 ≤ k) := ⟨by omega, by omega⟩
    have hk2 : k ≤ 2048 := by omega
    clear hk
    go_loopw [9] (fun ov wr => ∃ j : Nat, 2 + j ≤ k ∧ Row .u8 5 w6.heap.size wr ov (0 :: 1 :: List.replicate j 255) ∧ Below w6.heap.size w6 wr) (fun ov _ => k - Sh.lenOf ov)
    case atStart =>
      refine ⟨0, by have := HN.out.2; omega, ?_, al1 _⟩
      exact Row.arr (S := [0, 1]) (arr_newB rfl) (Nat.le_refl _) (by decide)
    case round =>
      obtain ⟨j, hj, hr, hbw⟩ := hrel
      obtain ⟨ao, co, hfo⟩ := hr.ne
      have hll : (0 :: 1 :: List.replicate j (255 : Int)).length = 2 + j := by simp; omega
      rw [hll] at hfo
      subst hfo
      have HR : Hid (Row .u8 5 w6.heap.size wr (.slice ao (2 + j) co) (0 :: 1 :: List.replicate j 255) ∧ Below w6.heap.size w6 wr) := ⟨hr, hbw⟩
      clear hr hbw hll
      by_cases hlt : 2 + j < k
      · have d5 : decide (((2 + j : Nat) : Int) < (k : Int)) = true := by simp; omega
        have hltI : ((2 + j : Nat) : Int) < (k : Int) := by omega
        go_wp2_with (at_builtin; refine wpList_ap rfl (.tmp 52) (.tmp 53) 25 25 rfl .u8 5 1 Tryz.und8 Tryz.info8 (by decide) w6.heap.size _ (0 :: 1 :: List.replicate j 255) rfl (HR.out.1.alloc _) _ [255] rfl (src_sl Tryz.und8 (new1 _)) (by simp; omega) (by have := HR.out.2.size; simp; omega) ?_; intro v7 w7 hr7 hg7; have H7 : Hid (Row .u8 5 w6.heap.size w7 v7 (0 :: 1 :: List.replicate (j + 1) 255) ∧ Below w6.heap.size w6 w7) := ⟨by rw [List.replicate_succ']; exact hr7, (HR.out.2.trans ((al1 _).mono HR.out.2.size)).trans (hg7.below (HR.out.1.alloc _) (by have := HR.out.2.size; simp; omega))⟩; clear hr7 hg7)
        obtain ⟨a7, c7, hv7⟩ := H7.out.1.ne
        refine ⟨⟨j + 1, by omega, H7.out⟩, ?_⟩
        rw [hv7]
        simp only [Sh.lenOf, List.length_cons, List.length_replicate]
        omega
      · have d5 : decide (((2 + j : Nat) : Int) < (k : Int)) = false := by simp; omega
        have hjk : 2 + j = k := by omega
        have HP : Hid ((0 :: 1 :: List.replicate j (255 : Int)) ++ [0] ++ namB alg X = padB alg X N) := by
          show _ = _
          unfold padB
          rw [H6.out.2.2, show N - t - 3 = j by have := HN.out.1; omega]
          simp
        have hNj : N ≤ 2048 := by omega
        clear hjk
        go_wp2_with (first
          | (at_builtin; refine wpList_ap rfl (.tmp 55) (.tmp 56) 25 25 rfl .u8 5 1 Tryz.und8 Tryz.info8 (by decide) w6.heap.size _ (0 :: 1 :: List.replicate j 255) rfl (HR.out.1.alloc _) _ [0] rfl (src_sl Tryz.und8 (new1 _)) (by simp; omega) (by have := HR.out.2.size; simp; omega) ?_; intro v7 w7 hr7 hg7; have H7 : Hid (Row .u8 5 w6.heap.size w7 v7 ((0 :: 1 :: List.replicate j 255) ++ [0]) ∧ Below w6.heap.size w6 w7) := ⟨hr7, (HR.out.2.trans ((al1 _).mono HR.out.2.size)).trans (hg7.below (HR.out.1.alloc _) (by have := HR.out.2.size; simp; omega))⟩; clear hr7 hg7)
          | (at_builtin; refine wpList_ap rfl (.tmp 57) (.tmp 58) 25 25 rfl .u8 5 1 Tryz.und8 Tryz.info8 (by decide) w6.heap.size _ ((0 :: 1 :: List.replicate j 255) ++ [0]) rfl H7.out.1 _ (namB alg X) rfl (by have h := src_sl Tryz.und8 (below_sl H7.out.2 H6.out.1); rw [← H6.out.2.2] at h; rw [← H6.out.2.2]; exact h) (by rw [H6.out.2.2]; simp; omega) H7.out.2.size ?_; intro v8 w8 hr8 hg8; have H8 : Hid (Row .u8 5 w6.heap.size w8 v8 (padB alg X N) ∧ Below w.heap.size w w8) := ⟨by rw [← HP.out]; exact hr8, below_via H6.out.2.1 (H7.out.2.trans (hg8.below H7.out.1 H7.out.2.size)) (Nat.le_refl _)⟩; clear hr8 hg8))
        go_ret2
        exact Or.inr ⟨by rw [H6.out.2.2]; omega, v8, rfl, H8.out.1.sl, H8.out.2⟩
end Go.Proofs.YtndoibmpnhkmpaaGreatDoor
/-
  Rsa: the law RsaPads.
-/
namespace Go.Proofs.YtndoibmpnhkmpaaGreatDoor
open Go.RowKit
set_option maxRecDepth 20000
/-- What Pad tells: the error, the bytes. -/
def padE (alg : Int) (X : List Int) (n : Int) : Int := if isD alg X.length = false ∨ 2048 < n then 1 else if n < (namB alg X).length + 11 then 2 else 0
def padV (alg : Int) (X : List Int) (n : Int) : List Int := if padE alg X n = 0 then padB alg X n.toNat else []
theorem padV_len (alg : Int) (X : List Int) (n : Int) : (padV alg X n).length ≤ 2048 := by
  unfold padV
  split
  · rename_i h
    unfold padE at h
    split at h
    · cases h
    · split at h
      · cases h
      · rw [padB_len (by omega)]; omega
  · simp
theorem PadC {w : World} (alg : Int) (a : Option Addr) (len cap : Nat) (X : List Int) (hX : Sl .u8 w (.slice a len cap) X) (uX : U8s X) (hl : X.length = len) (n : Int) :
    Calls Tryz.prog 28 #[.int .i64 alg, .slice a len cap, .int .i64 n] w fun e w' => ∃ v, e = .returned (.tuple #[v, .int .i64 (padE alg X n)]) ∧ Sl .u8 w' v (padV alg X n) ∧ Below w.heap.size w w' := by
  by_cases h1 : isD alg X.length = false ∨ 2048 < n
  · have e1 : padE alg X n = 1 := by unfold padE; rw [if_pos h1]
    have e2 : padV alg X n = [] := by unfold padV; rw [e1]; rfl
    rw [e1, e2]
    refine (Pad_arg alg a len cap n (by rw [← hl]; exact h1)).mono ?_
    rintro e w' ⟨rfl, rfl⟩
    exact ⟨_, rfl, nil_sl _, Below.refl _ _⟩
  · have hD : isD alg len = true := by rw [← hl]; simpa using fun h => h1 (.inl h)
    have hn : n ≤ 2048 := by omega
    by_cases h2 : n < (namB alg X).length + 11
    · have e1 : padE alg X n = 2 := by unfold padE; rw [if_neg h1, if_pos h2]
      have e2 : padV alg X n = [] := by unfold padV; rw [e1]; rfl
      rw [e1, e2]
      refine (Pad_short alg a len cap X hX uX hl hD n hn h2).mono ?_
      rintro e w' ⟨rfl, hb⟩
      exact ⟨_, rfl, nil_sl _, hb⟩
    · have e1 : padE alg X n = 0 := by unfold padE; rw [if_neg h1, if_neg h2]
      have e2 : padV alg X n = padB alg X n.toNat := by unfold padV; rw [e1]; rfl
      rw [e1, e2]
      obtain ⟨N, rfl⟩ : ∃ N : Nat, n = N := ⟨n.toNat, by omega⟩
      refine (Pad_any alg a len cap X hX uX hl hD N (by omega) (by omega)).mono ?_
      rintro e w' ⟨M, rfl, _, hs, hb⟩
      exact ⟨_, rfl, hs, hb⟩
theorem RPadC {w : World} (alg : Int) (a : Option Addr) (len cap : Nat) (X : List Int) (hX : Sl .u8 w (.slice a len cap) X) (uX : U8s X) (hl : X.length = len) (n : Int) :
    Calls Tryz.prog 44 #[.int .i64 alg, .slice a len cap, .int .i64 n] w fun e w' => ∃ v, e = .returned (.tuple #[v, .int .i64 (padE alg X n)]) ∧ Sl .u8 w' v (padV alg X n) ∧ Below w.heap.size w w' := by
  by_cases h1 : isD alg X.length = false ∨ 2048 < n
  · have e1 : padE alg X n = 1 := by unfold padE; rw [if_pos h1]
    have e2 : padV alg X n = [] := by unfold padV; rw [e1]; rfl
    rw [e1, e2]
    refine (RPad_arg alg a len cap n (by rw [← hl]; exact h1)).mono ?_
    rintro e w' ⟨rfl, rfl⟩
    exact ⟨_, rfl, nil_sl _, Below.refl _ _⟩
  · have hD : isD alg len = true := by rw [← hl]; simpa using fun h => h1 (.inl h)
    refine (RPad_any alg a len cap X hX uX hl hD n (by omega)).mono ?_
    rintro e w' (⟨h2, rfl, hb⟩ | ⟨h2, r, rfl, hs, hb⟩)
    · have e1 : padE alg X n = 2 := by unfold padE; rw [if_neg h1, if_pos h2]
      have e2 : padV alg X n = [] := by unfold padV; rw [e1]; rfl
      rw [e1, e2]
      exact ⟨_, rfl, nil_sl _, hb⟩
    · have e1 : padE alg X n = 0 := by unfold padE; rw [if_neg h1, if_neg (by omega)]
      have e2 : padV alg X n = padB alg X n.toNat := by unfold padV; rw [e1]; rfl
      rw [e1, e2]
      exact ⟨_, rfl, hs, hb⟩
end Go.Proofs.YtndoibmpnhkmpaaGreatDoor
/-
  Rsa: signatures in the first way: Verify of the program and of the reference.
-/
namespace Go.Proofs.YtndoibmpnhkmpaaGreatDoor
open Go.RowKit
set_option maxRecDepth 20000
theorem namB_u8 {alg : Int} {X : List Int} (h : isD alg X.length = true) (uX : U8s X) : U8s (namB alg X) := by
  unfold isD at h
  simp at h
  have ha : Alg4 alg := siz_pos.1 h.1
  have hz : X.length ≤ 64 := by rw [h.2]; rcases ha with rfl | rfl | rfl | rfl <;> decide
  have ho := oidB_u8 ha
  have h5 : U8s (elB 5 []) := elB_u8 (by decide) (by intro x hx; simp at hx) (by decide)
  have h6 : U8s (elB 6 (oidB alg)) := elB_u8 (by decide) ho.1 (by omega)
  have h65 : U8s (elB 6 (oidB alg) ++ elB 5 []) := fun x hx => (List.mem_append.1 hx).elim (h6 x) (h5 x)
  have h7 := elB_u8 (tag := 16) (by decide) h65 (by simp [elB_len]; omega)
  have h4 := elB_u8 (tag := 4) (by decide) uX (by omega)
  exact elB_u8 (by decide) (fun x hx => (List.mem_append.1 hx).elim (h7 x) (h4 x)) (by simp [elB_len]; omega)
theorem padV_u8 {alg : Int} {X : List Int} (n : Int) (uX : U8s X) : U8s (padV alg X n) := by
  unfold padV
  split
  · rename_i h
    unfold padE at h
    split at h
    · cases h
    · rename_i h1
      have hD : isD alg X.length = true := by simpa using fun h => h1 (.inl h)
      have hn := namB_u8 hD uX
      intro x hx
      unfold padB at hx
      simp at hx
      rcases hx with h | h | h | h | h
      · unfold U8; omega
      · unfold U8; omega
      · unfold U8; omega
      · unfold U8; omega
      · exact hn x h
  · intro x hx; simp at hx
theorem raw_u8 {ns es sg : List Int} : U8s (rawS ns es sg).1 := by
  unfold rawS
  split
  · intro x hx; simp at hx
  · split
    · intro x hx; simp at hx
    · split
      · intro x hx; simp at hx
      · unfold Nt.bytS
        split
        · intro x hx; simp at hx
        · split
          · intro x hx; simp at hx
          · split
            · intro x hx; simp at hx
            · exact Nt.beb_u8 _ _
/-- What Verify tells. -/
def verS (alg : Int) (X ns es sg : List Int) : Int :=
  if isD alg X.length = false then 1 else if (rawS ns es sg).2 ≠ 0 then (rawS ns es sg).2
  else if padE alg X (rawS ns es sg).1.length ≠ 0 then 112 else if padV alg X (rawS ns es sg).1.length ≠ (rawS ns es sg).1 then 112 else 0
set_option maxHeartbeats 4000000 in
theorem Verify_any {w : World} (a a' : Option Addr) (n c n' c' : Nat) (ns es : List Int) (hn : Sl .u32 w (.slice a n c) ns) (un : U32s ns) (ln : ns.length = n) (he : Sl .u32 w (.slice a' n' c') es) (ue : U32s es) (le : es.length = n') (hb : n ≤ 600) (hb' : n' ≤ 600)
    (b : Option Addr) (m d : Nat) (sg : List Int) (hs : Sl .u8 w (.slice b m d) sg) (us : U8s sg) (ls : sg.length = m)
    (alg : Int) (f : Option Addr) (k g : Nat) (X : List Int) (hX : Sl .u8 w (.slice f k g) X) (uX : U8s X) (lX : X.length = k) :
    Calls Tryz.prog 18 #[.agg #[.slice a n c, .slice a' n' c'], .int .i64 alg, .slice f k g, .slice b m d] w fun e w' => e = .returned (.int .i64 (verS alg X ns es sg)) ∧ Below w.heap.size w w' := by
  have HRw : Hid (∀ W, Below w.heap.size w W → Calls Tryz.prog 12 #[.agg #[.slice a n c, .slice a' n' c'], .slice b m d] W fun e w' => ∃ r, e = .returned (.tuple #[r, .int .i64 (rawS ns es sg).2]) ∧ Sl .u8 w' r (rawS ns es sg).1 ∧ Below W.heap.size W w') := fun W hW => Raw_any a a' n c n' c' ns es (below_sl hW hn) un ln (below_sl hW he) ue le hb hb' b m d sg (below_sl hW hs) us ls
  have HPd : Hid (∀ W (z : Int), Below w.heap.size w W → Calls Tryz.prog 28 #[.int .i64 alg, .slice f k g, .int .i64 z] W fun e w' => ∃ v, e = .returned (.tuple #[v, .int .i64 (padE alg X z)]) ∧ Sl .u8 w' v (padV alg X z) ∧ Below W.heap.size W w') := fun W z hW => PadC alg f k g X (below_sl hW hX) uX lX z
  have HU : Hid (U8s (rawS ns es sg).1 ∧ ∀ z, U8s (padV alg X z)) := ⟨raw_u8, fun z => padV_u8 z uX⟩
  have HID : Hid (∀ W, Calls Tryz.prog 42 #[.int .i64 alg, .slice f k g] W fun e w' => e = .returned (.bool (isD alg k)) ∧ w' = W) := fun W => isDigest_any alg f k g
  obtain ⟨V, hV⟩ : ∃ V, verS alg X ns es sg = V := ⟨_, rfl⟩
  have HV : Hid ((if isD alg k = false then 1 else if (rawS ns es sg).2 ≠ 0 then (rawS ns es sg).2
    else if padE alg X (rawS ns es sg).1.length ≠ 0 then 112 else if padV alg X (rawS ns es sg).1.length ≠ (rawS ns es sg).1 then 112 else 0) = V) := by show _ = _; rw [← hV, ← lX]; rfl
  rw [hV]
  obtain ⟨Rl, hRl⟩ : ∃ Rl, (rawS ns es sg).1 = Rl := ⟨_, rfl⟩
  obtain ⟨E, hE⟩ : ∃ E, (rawS ns es sg).2 = E := ⟨_, rfl⟩
  rw [hRl, hE] at HRw HV
  rw [hRl] at HU
  clear hn un ln he ue le hb hb' hs us ls hX uX lX hV hRl hE
  go_enter Tryz.func18, Tryz.ntmps18
  go_upto_region 1 with (refine Sh.wpList_boxR rfl 24 (.tmp 0) rfl #[.slice a n c, .slice a' n' c'] rfl ?_)
  refine Sh.wp_gen (fun W => Blk 24 W w.heap.size [.slice a n c, .slice a' n' c'] ∧ Below w.heap.size w W) ⟨Blk.new _ w _, al1 _⟩ ?_
  rintro W2 ⟨hB, hBw⟩
  have H2 : Hid (Below w.heap.size w W2 ∧ W2.rangeAt w.heap.size 0 [.slice a n c, .slice a' n' c']) := ⟨hBw, hB.whole⟩
  clear hB hBw
  cases hD : isD alg k with
  | false =>
    have HQ : Hid (1 = V) := by show _ = _; rw [← HV.out]; exact (if_pos hD).symm
    rw [hD] at HID
    clear hD HV
    go_wp2_with (go_at_call 42; refine (HID.out _).mono ?_; rintro e w' ⟨rfl, rfl⟩)
    go_ret
    exact ⟨by rw [← HQ.out]; rfl, H2.out.1⟩
  | true =>
    have HQ : Hid ((if E ≠ 0 then E else if padE alg X Rl.length ≠ 0 then 112 else if padV alg X Rl.length ≠ Rl then 112 else 0) = V) := by show _ = _; rw [← HV.out]; exact (if_neg (by rw [hD]; decide)).symm
    rw [hD] at HID
    clear hD HV
    by_cases h0 : E = 0
    · have HQ2 : Hid ((if padE alg X Rl.length ≠ 0 then 112 else if padV alg X Rl.length ≠ Rl then 112 else 0) = V) := by show _ = _; rw [← HQ.out]; exact (if_neg (by simpa using h0)).symm
      subst h0
      clear HQ
      obtain ⟨PE, hPE⟩ : ∃ PE, padE alg X Rl.length = PE := ⟨_, rfl⟩
      obtain ⟨PV, hPV⟩ : ∃ PV, padV alg X Rl.length = PV := ⟨_, rfl⟩
      rw [hPE, hPV] at HQ2
      have HP2 : Hid (∀ W, Below w.heap.size w W → Calls Tryz.prog 28 #[.int .i64 alg, .slice f k g, .int .i64 Rl.length] W fun e w' => ∃ v, e = .returned (.tuple #[v, .int .i64 PE]) ∧ Sl .u8 w' v PV ∧ Below W.heap.size W w') := fun W hW => by
        have := HPd.out W Rl.length hW; rw [hPE, hPV] at this; exact this
      have HU2 : Hid (U8s Rl ∧ U8s PV) := ⟨HU.out.1, by rw [← hPV]; exact HU.out.2 _⟩
      clear hPE hPV HPd HU
      obtain ⟨rn, hrn⟩ : ∃ rn, Rl.length = rn := ⟨_, rfl⟩
      go_wp2_with (first
        | (go_at_call 42; refine (HID.out _).mono ?_; rintro e w' ⟨rfl, rfl⟩)
        | (refine wpList_load_mid rfl 24 (.tmp 4) rfl w.heap.size 0 rfl [.slice a n c, .slice a' n' c'] _ H2.out.2 Tryz.underlying24 rfl (by kernel_rfl) ?_))
      refine (HRw.out _ H2.out.1).mono ?_
      rintro e w3 ⟨r3, rfl, hr3, hb3⟩
      obtain ⟨a3, c3, hf3⟩ := hr3.form
      subst hf3
      have H3 : Hid (Sl .u8 w3 (.slice a3 Rl.length c3) Rl ∧ Below w.heap.size w w3) := ⟨hr3, below_via H2.out.1 hb3 (Nat.le_refl _)⟩
      clear hr3 hb3
      rw [hrn] at H3 HP2 ⊢
      clear hrn
      by_cases h1 : PE = 0
      · subst h1
        obtain ⟨Q, hQ⟩ : ∃ Q, decide (Rl = PV) = Q := ⟨_, rfl⟩
        have HQ3 : Hid ((if Q then (0 : Int) else 112) = V) := by
          show _ = _
          rw [← HQ2.out, ← hQ]
          by_cases h : Rl = PV
          · simp [h]
          · simp [h, Ne.symm h]
        have HQd : Hid (decide (Rl = PV) = Q) := hQ
        clear hQ HQ2
        go_wp2_with fail
        refine (HP2.out _ H3.out.2).mono ?_
        rintro e w4 ⟨r4, rfl, hr4, hb4⟩
        obtain ⟨a4, c4, hf4⟩ := hr4.form
        subst hf4
        have H4 : Hid (Sl .u8 w4 (.slice a3 rn c3) Rl ∧ Sl .u8 w4 (.slice a4 PV.length c4) PV ∧ Below w.heap.size w w4) := ⟨below_sl hb4 H3.out.1, hr4, below_via H3.out.2 hb4 (Nat.le_refl _)⟩
        clear hr4 hb4 H3
        cases Q with
        | true =>
          go_wp2_with (go_at_call 43; refine (BEq_any _ _ _ _ _ _ Rl PV H4.out.1 H4.out.2.1 HU2.out.1 HU2.out.2 true HQd.out).mono ?_; rintro e w' ⟨rfl, rfl⟩)
          go_ret
          exact ⟨by rw [← HQ3.out]; rfl, H4.out.2.2⟩
        | false =>
          go_wp2_with (go_at_call 43; refine (BEq_any _ _ _ _ _ _ Rl PV H4.out.1 H4.out.2.1 HU2.out.1 HU2.out.2 false HQd.out).mono ?_; rintro e w' ⟨rfl, rfl⟩)
          go_ret
          exact ⟨by rw [← HQ3.out]; rfl, H4.out.2.2⟩
      · have d1 : (PE != 0) = true := by simpa using h1
        have HQ3 : Hid (112 = V) := by show _ = _; rw [← HQ2.out]; exact (if_pos h1).symm
        clear HQ2 h1
        go_wp2_with (go_at_call 28; refine (HP2.out _ H3.out.2).mono ?_; rintro e w4 ⟨r4, rfl, hr4, hb4⟩; have H4 : Hid (Below w.heap.size w w4) := below_via H3.out.2 hb4 (Nat.le_refl _); clear hr4 hb4)
        go_ret
        exact ⟨by rw [← HQ3.out]; rfl, H4.out⟩
    · have d1 : (E != 0) = true := by simpa using h0
      have HQ2 : Hid (E = V) := by show _ = _; rw [← HQ.out]; exact (if_pos h0).symm
      clear HQ h0
      go_wp2_with (first
        | (go_at_call 42; refine (HID.out _).mono ?_; rintro e w' ⟨rfl, rfl⟩)
        | (refine wpList_load_mid rfl 24 (.tmp 4) rfl w.heap.size 0 rfl [.slice a n c, .slice a' n' c'] _ H2.out.2 Tryz.underlying24 rfl (by kernel_rfl) ?_)
        | (go_at_call 12; refine (HRw.out _ H2.out.1).mono ?_; rintro e w3 ⟨r3, rfl, hr3, hb3⟩; have H3 : Hid (Below w.heap.size w w3) := below_via H2.out.1 hb3 (Nat.le_refl _); clear hr3 hb3))
      go_ret
      exact ⟨by rw [← HQ2.out]; rfl, H3.out⟩
end Go.Proofs.YtndoibmpnhkmpaaGreatDoor
