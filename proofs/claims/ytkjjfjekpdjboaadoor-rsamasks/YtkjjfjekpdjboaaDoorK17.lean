/-
  Rsa: the reference's Pad.
-/
import Derived.Laws.BytesArg
import Derived.Lib.SlBytesConst
import Derived.Test.YtkjjfjekpdjboaaDoorK16
namespace Go.Proofs.YtkjjfjekpdjboaaDoor
open Go.RowKit
set_option maxRecDepth 20000
theorem Tryd.one_int : (Tryd.prog.info? 3).map (·.size) = some 1 := by kernel_rfl
theorem RSize8 {w : World} (alg : Int) : Calls Tryd.prog 27 #[.int .i64 alg] w fun e w' => e = .returned (.int .i64 (Sh.siz alg)) ∧ w = w' := by
  unfold Sh.siz
  by_cases h1 : alg = 1
  · subst h1
    have hx : ∀ w' : World, Sem.run Tryd.prog (Instr.index 68 (.agg #[.int .i64 20, .int .i64 32, .int .i64 48, .int .i64 64]) (.int .i64 0)) w' = .ok (.int .i64 20) w' := fun w' => run_index_row w' _ _ 4 .i64 [20, 32, 48, 64] 0 Tryd.underlying68 Tryd.underlying3 Tryd.one_int rfl (by decide)
    go_enter Tryd.func27, Tryd.ntmps27; go_wp2; go_ret; exact ⟨rfl, rfl⟩
  by_cases h2 : alg = 2
  · subst h2
    have hx : ∀ w' : World, Sem.run Tryd.prog (Instr.index 68 (.agg #[.int .i64 20, .int .i64 32, .int .i64 48, .int .i64 64]) (.int .i64 1)) w' = .ok (.int .i64 32) w' := fun w' => run_index_row w' _ _ 4 .i64 [20, 32, 48, 64] 1 Tryd.underlying68 Tryd.underlying3 Tryd.one_int rfl (by decide)
    go_enter Tryd.func27, Tryd.ntmps27; go_wp2; go_ret; exact ⟨rfl, rfl⟩
  by_cases h3 : alg = 3
  · subst h3
    have hx : ∀ w' : World, Sem.run Tryd.prog (Instr.index 68 (.agg #[.int .i64 20, .int .i64 32, .int .i64 48, .int .i64 64]) (.int .i64 2)) w' = .ok (.int .i64 48) w' := fun w' => run_index_row w' _ _ 4 .i64 [20, 32, 48, 64] 2 Tryd.underlying68 Tryd.underlying3 Tryd.one_int rfl (by decide)
    go_enter Tryd.func27, Tryd.ntmps27; go_wp2; go_ret; exact ⟨rfl, rfl⟩
  by_cases h4 : alg = 4
  · subst h4
    have hx : ∀ w' : World, Sem.run Tryd.prog (Instr.index 68 (.agg #[.int .i64 20, .int .i64 32, .int .i64 48, .int .i64 64]) (.int .i64 3)) w' = .ok (.int .i64 64) w' := fun w' => run_index_row w' _ _ 4 .i64 [20, 32, 48, 64] 3 Tryd.underlying68 Tryd.underlying3 Tryd.one_int rfl (by decide)
    go_enter Tryd.func27, Tryd.ntmps27; go_wp2; go_ret; exact ⟨rfl, rfl⟩
  rw [if_neg h1, if_neg h2, if_neg h3, if_neg h4]
  by_cases h5 : alg < 1
  · go_enter Tryd.func27, Tryd.ntmps27; go_wp2; go_ret; exact ⟨rfl, rfl⟩
  · have h6 : 4 < alg := by omega
    go_enter Tryd.func27, Tryd.ntmps27; go_wp2; go_ret; exact ⟨rfl, rfl⟩
theorem ROid8 {w : World} (alg : Int) (ha : Alg4 alg) : Calls Tryd.prog 34 #[.int .i64 alg] w fun e w' => e = .returned (.string (strOfNums (oidY alg))) ∧ w = w' := by
  rcases ha with rfl | rfl | rfl | rfl
  all_goals (go_enter Tryd.func34, Tryd.ntmps34; go_wp2; go_ret; exact ⟨congrArg (fun s => Ending.returned (Value.string s)) (by decide +kernel), rfl⟩)
theorem rput8 {w : World} (tag : Nat) (ht1 : 1 ≤ tag) (ht : tag < 31) (a : Option Addr) (n cp : Nat) (vs : List Value) (ms : List (List Int)) (hL : Lists w a n cp vs ms) (hn : n ≤ 1000) (h128 : ms.flatten.length < 128) (co : Bool) (hc : co = decide (tag = 16)) :
    Calls Tryd.prog 53 #[.int .i64 0, .int .i64 tag, .bool co, .slice a n cp] w fun e w' => ∃ r, e = .returned (.tuple #[r, .int .i64 0]) ∧ Row .u8 5 w.heap.size w' r (elB tag ms.flatten) ∧ Below w.heap.size w w' := by
  obtain ⟨N, hN⟩ : ∃ N, ms.flatten.length = N := ⟨_, rfl⟩
  have hl : ∃ l : Nat, N / 256 ^ l = 0 ∧ (∀ j, j < l → 0 < N / 256 ^ j) ∧ l ≤ 7 := by
    by_cases h0 : N = 0
    · exact ⟨0, by simp [h0], by omega, by omega⟩
    · refine ⟨1, by omega, fun j hj => ?_, by omega⟩
      obtain rfl : j = 0 := by omega
      simp; omega
  obtain ⟨l, hl0, hl1, hl7⟩ := hl
  have hE : headB 0 co tag 0 ++ lenB N l ++ ms.flatten = elB tag ms.flatten := by
    unfold headB lenB elB frst
    have h1 : N < 128 := by omega
    rw [hc, hN]
    by_cases h : tag = 16
    · simp [h, h1]
    · simp [h, h1, ht]
  have := RPut_any (w := w) 0 tag 0 l co a n cp N vs ms hL hN (by omega) (by omega) (by unfold headOk; simp; omega) (by simp; omega) (by omega) (by omega) hl0 hl1 hl7
  rw [hE] at this
  exact this
set_option maxHeartbeats 1000000 in
theorem Prim8 {w : World} (tag : Nat) (ht1 : 1 ≤ tag) (ht : tag < 16) (a : Option Addr) (n cp : Nat) (X : List Int) (hX : Sl .u8 w (.slice a n cp) X) (uX : U8s X) (h128 : X.length < 128) :
    Calls Tryd.prog 35 #[.int .i64 tag, .slice a n cp] w fun e w' => ∃ r, e = .returned r ∧ Row .u8 5 w.heap.size w' r (elB tag X) ∧ Below w.heap.size w w' := by
  have HP : Hid (∀ o, o = .cells #[.slice a n cp] 31 → Calls Tryd.prog 53 #[.int .i64 0, .int .i64 tag, .bool false, .slice (some ⟨w.heap.size, 0, none⟩) 1 1] (w.alloc o) fun e w' => ∃ r, e = .returned (.tuple #[r, .int .i64 0]) ∧ Row .u8 5 w.heap.size w' r (elB tag X) ∧ Below w.heap.size w w') := fun o ho => by
    subst ho
    refine (rput8 tag ht1 (by omega) _ 1 1 _ [X] (lists1 hX uX) (by decide) (by simpa using h128) false (by simp; omega)).mono ?_
    rintro e w' ⟨r, rfl, hr, hb⟩
    refine ⟨r, rfl, ?_, below_via (al1 _) hb (Nat.le_refl _)⟩
    have := hr.mono (B' := w.heap.size) (by simp)
    simpa using this
  clear hX uX
  go_enter Tryd.func35, Tryd.ntmps35
  go_wp2_with (go_at_call 53; refine (HP.out _ rfl).mono ?_; rintro e w2 ⟨r, rfl, hr, hb⟩; have HR : Hid (Row .u8 5 w.heap.size w2 r (elB tag X) ∧ Below w.heap.size w w2) := ⟨hr, hb⟩; clear hr hb)
  go_ret
  exact ⟨r, rfl, HR.out⟩
set_option maxHeartbeats 1000000 in
theorem Seq8 {w : World} (a : Option Addr) (n cp : Nat) (vs : List Value) (ms : List (List Int)) (hL : Lists w a n cp vs ms) (hn : n ≤ 1000) (h128 : ms.flatten.length < 128) :
    Calls Tryd.prog 32 #[.int .i64 16, .slice a n cp] w fun e w' => ∃ r, e = .returned r ∧ Row .u8 5 w.heap.size w' r (elB 16 ms.flatten) ∧ Below w.heap.size w w' := by
  have HP : Hid (∀ w', w' = w → Calls Tryd.prog _ _ w' _) := fun w' hw => by rw [hw]; exact rput8 16 (by decide) (by decide) a n cp vs ms hL hn h128 true (by decide)
  clear hL
  go_enter Tryd.func32, Tryd.ntmps32
  go_wp2_with (go_at_call 53; refine (HP.out _ rfl).mono ?_; rintro e w2 ⟨r, rfl, hr, hb⟩; have HR : Hid (Row .u8 5 w.heap.size w2 r (elB 16 ms.flatten) ∧ Below w.heap.size w w2) := ⟨hr, hb⟩; clear hr hb)
  go_ret
  exact ⟨r, rfl, HR.out⟩
set_option maxHeartbeats 1000000 in
theorem OidOf8 {w : World} (alg : Int) (ha : Alg4 alg) : Calls Tryd.prog 33 #[.string (strOfNums (oidY alg))] w fun e w' => ∃ r, e = .returned r ∧ Row .u8 5 w.heap.size w' r (elB 6 (oidB alg)) ∧ Below w.heap.size w w' := by
  go_enter Tryd.func33, Tryd.ntmps33
  go_wp2_with fail
  refine (RPutOid_any (oidY alg) (oidY_u8 ha).1 (oidY_u8 ha).2).mono ?_
  rintro e w1 ⟨⟨r1, b1, er1, hp, rfl, hs1⟩, hb1⟩
  obtain ⟨rfl, rfl⟩ := hp.uniq (oidR ha)
  obtain ⟨a1, c1, rfl⟩ := hs1.form
  have H1 : Hid (Sl .u8 w1 (.slice a1 (oidB alg).length c1) (oidB alg) ∧ Below w.heap.size w w1) := ⟨hs1, hb1⟩
  clear hs1 hb1 hp
  go_wp2_with (go_at_call 35; refine (Prim8 6 (by decide) (by decide) _ _ _ (oidB alg) H1.out.1 (oidB_u8 ha).1 (by have := (oidB_u8 ha).2; omega)).mono ?_; rintro e w2 ⟨r, rfl, hr, hb⟩; have HR : Hid (Row .u8 5 w.heap.size w2 r (elB 6 (oidB alg)) ∧ Below w.heap.size w w2) := ⟨hr.mono H1.out.2.size, below_via H1.out.2 hb (Nat.le_refl _)⟩; clear hr hb)
  go_ret
  exact ⟨r, rfl, HR.out⟩
end Go.Proofs.YtkjjfjekpdjboaaDoor
/-
  Rsa: the reference's Pad, walked.
-/
namespace Go.Proofs.YtkjjfjekpdjboaaDoor
open Go.RowKit
set_option maxRecDepth 20000
set_option maxHeartbeats 1000000 in
theorem RPad_arg {w : World} (alg : Int) (a : Option Addr) (len cap : Nat) (n : Int) (h : isD alg len = false ∨ 2048 < n) : Calls Tryd.prog 18 #[.int .i64 alg, .slice a len cap, .int .i64 n] w fun e w' => e = .returned (.tuple #[.slice none 0 0, .int .i64 1]) ∧ w' = w := by
  obtain ⟨z, hz⟩ : ∃ z, Sh.siz alg = z := ⟨_, rfl⟩
  have HS : Hid (∀ w' : World, Calls Tryd.prog 27 #[.int .i64 alg] w' fun e w'' => e = .returned (.int .i64 z) ∧ w' = w'') := fun w' => by rw [← hz]; exact RSize8 alg
  have hd : isD alg len = decide (0 < z ∧ len = z) := by unfold isD; rw [hz]
  rw [hd] at h
  clear hd hz
  by_cases h0 : z = 0
  · subst h0
    go_enter Tryd.func18, Tryd.ntmps18
    go_wp2_with (go_at_call 27; refine (HS.out _).mono ?_; rintro e w' ⟨rfl, rfl⟩)
    go_ret2
    exact ⟨rfl, rfl⟩
  have d0 : ((z : Int) == 0) = false := by simp; omega
  by_cases h1 : len = z
  · have h2 : 2048 < n := by rcases h with h | h; simp at h; omega; exact h
    have d1 : ((len : Int) != (z : Int)) = false := by simp [h1]
    have d2 : decide ((2048 : Int) < n) = true := by simpa using h2
    clear h h1
    go_enter Tryd.func18, Tryd.ntmps18
    go_wp2_with (go_at_call 27; refine (HS.out _).mono ?_; rintro e w' ⟨rfl, rfl⟩)
    go_ret2
    exact ⟨rfl, rfl⟩
  · have d1 : ((len : Int) != (z : Int)) = true := by simp; omega
    clear h
    go_enter Tryd.func18, Tryd.ntmps18
    go_wp2_with (go_at_call 27; refine (HS.out _).mono ?_; rintro e w' ⟨rfl, rfl⟩)
    go_ret2
    exact ⟨rfl, rfl⟩
end Go.Proofs.YtkjjfjekpdjboaaDoor
/-
  Rsa: the reference's Pad, where the digest is one.
-/
namespace Go.Proofs.YtkjjfjekpdjboaaDoor
open Go.RowKit
set_option maxRecDepth 20000
theorem isD_len' {alg : Int} {len : Nat} (h : isD alg len = true) : Alg4 alg ∧ len = Sh.siz alg ∧ len ≤ 64 := by
  unfold isD at h
  simp only [decide_eq_true_eq] at h
  exact ⟨siz_pos.1 h.1, h.2, by rw [h.2]; exact Sh.siz_le alg⟩
/-- What the reference's Pad tells. -/
def RPadAns (alg : Int) (X : List Int) (n : Int) (w : World) (e : Ending) (w' : World) : Prop :=
  (n < (namB alg X).length + 11 ∧ e = .returned (.tuple #[.slice none 0 0, .int .i64 2]) ∧ Below w.heap.size w w') ∨
  ((namB alg X).length + 11 ≤ n ∧ ∃ r, e = .returned (.tuple #[r, .int .i64 0]) ∧ Sl .u8 w' r (padB alg X n.toNat) ∧ Below w.heap.size w w')
set_option maxHeartbeats 4000000 in
theorem RPad_any {w : World} (alg : Int) (a : Option Addr) (len cap : Nat) (X : List Int) (hX : Sl .u8 w (.slice a len cap) X) (uX : U8s X) (hl : X.length = len) (hD : isD alg len = true) (n : Int) (hn : n ≤ 2048) :
    Calls Tryd.prog 18 #[.int .i64 alg, .slice a len cap, .int .i64 n] w fun e w' => RPadAns alg X n w e w' := by
  obtain ⟨ha, h0, h64⟩ := isD_len' hD
  have HS : Hid (∀ w' : World, Calls Tryd.prog 27 #[.int .i64 alg] w' fun e w'' => e = .returned (.int .i64 len) ∧ w' = w'') := fun w' => by rw [h0]; exact RSize8 alg
  have hl0 : 0 < len := by rw [h0]; exact siz_pos.2 ha
  have d0 : ((len : Int) == 0) = false := by simp; omega
  have d2 : decide ((2048 : Int) < n) = false := by simp; omega
  have HX : Hid (Sl .u8 w (.slice a len cap) X ∧ U8s X ∧ X.length = len ∧ U8s (oidB alg) ∧ (oidB alg).length ≤ 9) := ⟨hX, uX, hl, (oidB_u8 ha).1, (oidB_u8 ha).2⟩
  clear h0 hX uX hl hD
  go_enter Tryd.func18, Tryd.ntmps18
  go_upto_region 3 with (go_at_call 27; refine (HS.out _).mono ?_; rintro e w' ⟨rfl, rfl⟩)
  go_wp2_with (go_at_call 34; refine (ROid8 alg ha).mono ?_; rintro e w' ⟨rfl, rfl⟩)
  refine (OidOf8 alg ha).mono ?_
  rintro e w2 ⟨r2, rfl, hr2, hb2⟩
  have H2 : Hid (Sl .u8 w2 r2 (elB 6 (oidB alg)) ∧ Below w.heap.size w w2) := ⟨hr2.sl, hb2⟩
  obtain ⟨a2, c2, hf2⟩ := H2.out.1.form
  subst hf2
  clear hr2 hb2
  go_wp2_with fail
  refine (Prim8 5 (by decide) (by decide) none 0 0 [] (nil_sl _) nil_u8 (by decide)).mono ?_
  rintro e w3 ⟨r3, rfl, hr3, hb3⟩
  have H3 : Hid (Sl .u8 w3 (.slice a2 (elB 6 (oidB alg)).length c2) (elB 6 (oidB alg)) ∧ Sl .u8 w3 r3 (elB 5 []) ∧ Below w.heap.size w w3) := ⟨below_sl hb3 H2.out.1, hr3.sl, below_via H2.out.2 hb3 (Nat.le_refl _)⟩
  obtain ⟨a3, c3, hf3⟩ := H3.out.2.1.form
  subst hf3
  clear hr3 hb3
  go_wp2_with fail
  refine (Seq8 _ 2 2 _ [elB 6 (oidB alg), elB 5 []] (lists2 H3.out.1 (elB_u8 (by decide) HX.out.2.2.2.1 (by have := HX.out.2.2.2.2; omega)) H3.out.2.1 (elB_u8 (by decide) nil_u8 (by decide))) (by decide) (by have := HX.out.2.2.2.2; simp [elB_len]; omega)).mono ?_
  rintro e w4 ⟨r4, rfl, hr4, hb4⟩
  have H4 : Hid (Sl .u8 w4 r4 (elB 16 (elB 6 (oidB alg) ++ elB 5 [])) ∧ Below w.heap.size w w4) := ⟨by have := hr4.sl; simpa using this, below_via H3.out.2.2 (below_via (al1 _) hb4 (Nat.le_refl _)) (Nat.le_refl _)⟩
  obtain ⟨a4, c4, hf4⟩ := H4.out.1.form
  subst hf4
  clear hr4 hb4
  go_wp2_with fail
  refine (Prim8 4 (by decide) (by decide) a len cap X (below_sl H4.out.2 HX.out.1) HX.out.2.1 (by have := HX.out.2.2.1; omega)).mono ?_
  rintro e w5 ⟨r5, rfl, hr5, hb5⟩
  have H5 : Hid (Sl .u8 w5 (.slice a4 (elB 16 (elB 6 (oidB alg) ++ elB 5 [])).length c4) (elB 16 (elB 6 (oidB alg) ++ elB 5 [])) ∧ Sl .u8 w5 r5 (elB 4 X) ∧ Below w.heap.size w w5) := ⟨below_sl hb5 H4.out.1, hr5.sl, below_via H4.out.2 hb5 (Nat.le_refl _)⟩
  obtain ⟨a5, c5, hf5⟩ := H5.out.2.1.form
  subst hf5
  clear hr5 hb5
  go_wp2_with fail
  refine (Seq8 _ 2 2 _ [elB 16 (elB 6 (oidB alg) ++ elB 5 []), elB 4 X] (lists2 H5.out.1 (elB_u8 (by decide) ((elB_u8 (by decide) HX.out.2.2.2.1 (by have := HX.out.2.2.2.2; omega)).append (elB_u8 (by decide) nil_u8 (by decide))) (by have := HX.out.2.2.2.2; simp [elB_len]; omega)) H5.out.2.1 (elB_u8 (by decide) HX.out.2.1 (by have := HX.out.2.2.1; omega))) (by decide) (by have := HX.out.2.2.2.2; have := HX.out.2.2.1; simp [elB_len]; omega)).mono ?_
  rintro e w6 ⟨r6, rfl, hr6, hb6⟩
  obtain ⟨t, ht⟩ : ∃ t, (namB alg X).length = t := ⟨_, rfl⟩
  have hsn : Sl .u8 w6 r6 (namB alg X) := by have := hr6.sl; unfold namB; simpa using this
  obtain ⟨a6, c6, hf6⟩ := hsn.form
  rw [ht] at hf6
  subst hf6
  have htl := namB_len alg X
  have H6 : Hid (Sl .u8 w6 (.slice a6 t c6) (namB alg X) ∧ Below w.heap.size w w6 ∧ (namB alg X).length = t) := ⟨hsn, below_via H5.out.2.2 (below_via (al1 _) hb6 (Nat.le_refl _)) (Nat.le_refl _), ht⟩
  have ht2 : t ≤ 200 ∧ 10 ≤ t := by have := HX.out.2.2.2.2; have := HX.out.2.2.1; omega
  clear hr6 hb6 hsn htl ht
  by_cases hs : n < t + 11
  · have hs2 : n < 11 ∨ n - 11 < (t : Int) := by omega
    by_cases hs3 : n < 11
    · have d3 : decide (n < 11) = true := by simpa using hs3
      go_wp2_with fail
      go_ret2
      exact Or.inl ⟨by rw [H6.out.2.2]; exact hs, rfl, H6.out.2.1⟩
    · have d3 : decide (n < 11) = false := by simpa using hs3
      have d4 : decide (n - 11 < (t : Int)) = true := by simp; omega
      go_wp2_with fail
      go_ret2
      exact Or.inl ⟨by rw [H6.out.2.2]; exact hs, rfl, H6.out.2.1⟩
  · obtain ⟨N, rfl⟩ : ∃ N : Nat, n = N := ⟨n.toNat, by omega⟩
    have d3 : decide ((N : Int) < 11) = false := by simp; omega
    have d4 : decide ((N : Int) - 11 < (t : Int)) = false := by simp; omega
    have hNt : t + 11 ≤ N := by omega
    go_wp2_with fail
    obtain ⟨k, hk⟩ : ∃ k, N - t - 1 = k := ⟨_, rfl⟩
    have hkI : (N : Int) - 1 - (t : Int) = (k : Int) := by omega
    have HN : Hid (N = t + 1 + k ∧ 10 ≤ k) := ⟨by omega, by omega⟩
    have hk2 : k ≤ 2048 := by omega
    clear hk
    go_loopw [9] (fun ov wr => ∃ j : Nat, 2 + j ≤ k ∧ Row .u8 5 w6.heap.size wr ov (0 :: 1 :: List.replicate j 255) ∧ Below w6.heap.size w6 wr) (fun ov _ => k - Sh.lenOf ov)
    case atStart =>
      refine ⟨0, by have := HN.out.2; omega, ?_, al1 _⟩
      exact Row.arr (S := [0, 1]) (arr_newB rfl) (Nat.le_refl _) (by decide)
    case round =>
      obtain ⟨j, hj, hr, hbw⟩ := hrel
      obtain ⟨ao, co, hfo⟩ := hr.ne
      have hll : (0 :: 1 :: List.replicate j (255 : Int)).length = 2 + j := by simp; omega
      rw [hll] at hfo
      subst hfo
      have HR : Hid (Row .u8 5 w6.heap.size wr (.slice ao (2 + j) co) (0 :: 1 :: List.replicate j 255) ∧ Below w6.heap.size w6 wr) := ⟨hr, hbw⟩
      clear hr hbw hll
      by_cases hlt : 2 + j < k
      · have d5 : decide (((2 + j : Nat) : Int) < (k : Int)) = true := by simp; omega
        have hltI : ((2 + j : Nat) : Int) < (k : Int) := by omega
        go_wp2_with (at_builtin; refine wpList_ap rfl (.tmp 52) (.tmp 53) 31 31 rfl .u8 5 1 Tryd.und8 Tryd.info8 (by decide) w6.heap.size _ (0 :: 1 :: List.replicate j 255) rfl (HR.out.1.alloc _) _ [255] rfl (src_sl Tryd.und8 (new1 _)) (by simp; omega) (by have := HR.out.2.size; simp; omega) ?_; intro v7 w7 hr7 hg7; have H7 : Hid (Row .u8 5 w6.heap.size w7 v7 (0 :: 1 :: List.replicate (j + 1) 255) ∧ Below w6.heap.size w6 w7) := ⟨by rw [List.replicate_succ']; exact hr7, (HR.out.2.trans ((al1 _).mono HR.out.2.size)).trans (hg7.below (HR.out.1.alloc _) (by have := HR.out.2.size; simp; omega))⟩; clear hr7 hg7)
        obtain ⟨a7, c7, hv7⟩ := H7.out.1.ne
        refine ⟨⟨j + 1, by omega, H7.out⟩, ?_⟩
        rw [hv7]
        simp only [Sh.lenOf, List.length_cons, List.length_replicate]
        omega
      · have d5 : decide (((2 + j : Nat) : Int) < (k : Int)) = false := by simp; omega
        have hjk : 2 + j = k := by omega
        have HP : Hid ((0 :: 1 :: List.replicate j (255 : Int)) ++ [0] ++ namB alg X = padB alg X N) := by
          show _ = _
          unfold padB
          rw [H6.out.2.2, show N - t - 3 = j by have := HN.out.1; omega]
          simp
        have hNj : N ≤ 2048 := by omega
        clear hjk
        go_wp2_with (first
          | (at_builtin; refine wpList_ap rfl (.tmp 55) (.tmp 56) 31 31 rfl .u8 5 1 Tryd.und8 Tryd.info8 (by decide) w6.heap.size _ (0 :: 1 :: List.replicate j 255) rfl (HR.out.1.alloc _) _ [0] rfl (src_sl Tryd.und8 (new1 _)) (by simp; omega) (by have := HR.out.2.size; simp; omega) ?_; intro v7 w7 hr7 hg7; have H7 : Hid (Row .u8 5 w6.heap.size w7 v7 ((0 :: 1 :: List.replicate j 255) ++ [0]) ∧ Below w6.heap.size w6 w7) := ⟨hr7, (HR.out.2.trans ((al1 _).mono HR.out.2.size)).trans (hg7.below (HR.out.1.alloc _) (by have := HR.out.2.size; simp; omega))⟩; clear hr7 hg7)
          | (at_builtin; refine wpList_ap rfl (.tmp 57) (.tmp 58) 31 31 rfl .u8 5 1 Tryd.und8 Tryd.info8 (by decide) w6.heap.size _ ((0 :: 1 :: List.replicate j 255) ++ [0]) rfl H7.out.1 _ (namB alg X) rfl (by have h := src_sl Tryd.und8 (below_sl H7.out.2 H6.out.1); rw [← H6.out.2.2] at h; rw [← H6.out.2.2]; exact h) (by rw [H6.out.2.2]; simp; omega) H7.out.2.size ?_; intro v8 w8 hr8 hg8; have H8 : Hid (Row .u8 5 w6.heap.size w8 v8 (padB alg X N) ∧ Below w.heap.size w w8) := ⟨by rw [← HP.out]; exact hr8, below_via H6.out.2.1 (H7.out.2.trans (hg8.below H7.out.1 H7.out.2.size)) (Nat.le_refl _)⟩; clear hr8 hg8))
        go_ret2
        exact Or.inr ⟨by rw [H6.out.2.2]; omega, v8, rfl, H8.out.1.sl, H8.out.2⟩
end Go.Proofs.YtkjjfjekpdjboaaDoor
/-
  Rsa: the law RsaPads.
-/
namespace Go.Proofs.YtkjjfjekpdjboaaDoor
open Go.RowKit
set_option maxRecDepth 20000
/-- What Pad tells: the error, the bytes. -/
def padE (alg : Int) (X : List Int) (n : Int) : Int := if isD alg X.length = false ∨ 2048 < n then 1 else if n < (namB alg X).length + 11 then 2 else 0
def padV (alg : Int) (X : List Int) (n : Int) : List Int := if padE alg X n = 0 then padB alg X n.toNat else []
theorem padV_len (alg : Int) (X : List Int) (n : Int) : (padV alg X n).length ≤ 2048 := by
  unfold padV
  split
  · rename_i h
    unfold padE at h
    split at h
    · cases h
    · split at h
      · cases h
      · rw [padB_len (by omega)]; omega
  · simp
theorem PadC {w : World} (alg : Int) (a : Option Addr) (len cap : Nat) (X : List Int) (hX : Sl .u8 w (.slice a len cap) X) (uX : U8s X) (hl : X.length = len) (n : Int) :
    Calls Tryd.prog 17 #[.int .i64 alg, .slice a len cap, .int .i64 n] w fun e w' => ∃ v, e = .returned (.tuple #[v, .int .i64 (padE alg X n)]) ∧ Sl .u8 w' v (padV alg X n) ∧ Below w.heap.size w w' := by
  by_cases h1 : isD alg X.length = false ∨ 2048 < n
  · have e1 : padE alg X n = 1 := by unfold padE; rw [if_pos h1]
    have e2 : padV alg X n = [] := by unfold padV; rw [e1]; rfl
    rw [e1, e2]
    refine (Pad_arg alg a len cap n (by rw [← hl]; exact h1)).mono ?_
    rintro e w' ⟨rfl, rfl⟩
    exact ⟨_, rfl, nil_sl _, Below.refl _ _⟩
  · have hD : isD alg len = true := by rw [← hl]; simpa using fun h => h1 (.inl h)
    have hn : n ≤ 2048 := by omega
    by_cases h2 : n < (namB alg X).length + 11
    · have e1 : padE alg X n = 2 := by unfold padE; rw [if_neg h1, if_pos h2]
      have e2 : padV alg X n = [] := by unfold padV; rw [e1]; rfl
      rw [e1, e2]
      refine (Pad_short alg a len cap X hX uX hl hD n hn h2).mono ?_
      rintro e w' ⟨rfl, hb⟩
      exact ⟨_, rfl, nil_sl _, hb⟩
    · have e1 : padE alg X n = 0 := by unfold padE; rw [if_neg h1, if_neg h2]
      have e2 : padV alg X n = padB alg X n.toNat := by unfold padV; rw [e1]; rfl
      rw [e1, e2]
      obtain ⟨N, rfl⟩ : ∃ N : Nat, n = N := ⟨n.toNat, by omega⟩
      refine (Pad_any alg a len cap X hX uX hl hD N (by omega) (by omega)).mono ?_
      rintro e w' ⟨M, rfl, _, hs, hb⟩
      exact ⟨_, rfl, hs, hb⟩
theorem RPadC {w : World} (alg : Int) (a : Option Addr) (len cap : Nat) (X : List Int) (hX : Sl .u8 w (.slice a len cap) X) (uX : U8s X) (hl : X.length = len) (n : Int) :
    Calls Tryd.prog 18 #[.int .i64 alg, .slice a len cap, .int .i64 n] w fun e w' => ∃ v, e = .returned (.tuple #[v, .int .i64 (padE alg X n)]) ∧ Sl .u8 w' v (padV alg X n) ∧ Below w.heap.size w w' := by
  by_cases h1 : isD alg X.length = false ∨ 2048 < n
  · have e1 : padE alg X n = 1 := by unfold padE; rw [if_pos h1]
    have e2 : padV alg X n = [] := by unfold padV; rw [e1]; rfl
    rw [e1, e2]
    refine (RPad_arg alg a len cap n (by rw [← hl]; exact h1)).mono ?_
    rintro e w' ⟨rfl, rfl⟩
    exact ⟨_, rfl, nil_sl _, Below.refl _ _⟩
  · have hD : isD alg len = true := by rw [← hl]; simpa using fun h => h1 (.inl h)
    refine (RPad_any alg a len cap X hX uX hl hD n (by omega)).mono ?_
    rintro e w' (⟨h2, rfl, hb⟩ | ⟨h2, r, rfl, hs, hb⟩)
    · have e1 : padE alg X n = 2 := by unfold padE; rw [if_neg h1, if_pos h2]
      have e2 : padV alg X n = [] := by unfold padV; rw [e1]; rfl
      rw [e1, e2]
      exact ⟨_, rfl, nil_sl _, hb⟩
    · have e1 : padE alg X n = 0 := by unfold padE; rw [if_neg h1, if_neg (by omega)]
      have e2 : padV alg X n = padB alg X n.toNat := by unfold padV; rw [e1]; rfl
      rw [e1, e2]
      exact ⟨_, rfl, hs, hb⟩
set_option maxHeartbeats 2000000 in
theorem RsaPads_any {w : World} (alg : Int) (a : Option Addr) (len cap : Nat) (X : List Int) (hX : Sl .u8 w (.slice a len cap) X) (uX : U8s X) (hl : X.length = len) (n : Int) (hT : Sh.Tabs w) :
    Calls Tryd.prog 5 #[.int .i64 alg, .slice a len cap, .int .i64 n] w fun e w' => e = .returned (.bool true) ∧ Below w.heap.size w w' := by
  by_cases h1 : ¬ len ≤ 8192
  · have h1I : (8192 : Int) < (len : Int) := by omega
    have HT : Hid (Sh.Tabs w) := hT
    clear hX uX hl hT
    go_enter Tryd.func5, Tryd.ntmps5
    go_wp2_with (go_at_call 6; refine (live8_any HT.out).mono ?_; rintro e w2 ⟨rfl, hb⟩)
    go_ret
    exact ⟨rfl, hb⟩
  have h1 := Decidable.not_not.1 h1
  have h1I : (len : Int) ≤ 8192 := by omega
  have HX : Hid (Sl .u8 w (.slice a len cap) X ∧ U8s X ∧ X.length = len ∧ Sh.Tabs w) := ⟨hX, uX, hl, hT⟩
  clear hX uX hl hT
  go_enter Tryd.func5, Tryd.ntmps5
  go_wp2_with fail
  refine (Lent8_n X _ w len HX.out.2.2.1 HX.out.1 (by omega)).mono ?_
  rintro e w1 ⟨b1, S1, c1, rfl, hl1, _, _, _, hb1⟩
  have H1 : Hid (LentR8 w.heap.size w1 (.slice (some ⟨b1, 0, none⟩) len c1) X ∧ Below w.heap.size w w1) := ⟨hl1, hb1⟩
  clear hl1 hb1
  go_wp2_with fail
  refine (PadC alg _ len c1 X H1.out.1.sl HX.out.2.1 HX.out.2.2.1 n).mono ?_
  rintro e w2 ⟨v2, rfl, hs2, hb2⟩
  have H2 : Hid (LentR8 w.heap.size w2 (.slice (some ⟨b1, 0, none⟩) len c1) X ∧ Sl .u8 w2 v2 (padV alg X n) ∧ Below w.heap.size w w2) := ⟨H1.out.1.below hb2, hs2, below_via H1.out.2 hb2 (Nat.le_refl _)⟩
  obtain ⟨a2, c2, hf2⟩ := hs2.form
  subst hf2
  clear hs2 hb2
  obtain ⟨E, hE⟩ : ∃ E, padE alg X n = E := ⟨_, rfl⟩
  have HE : Hid (padE alg X n = E) := hE
  simp only [hE]
  clear hE
  go_wp2_with fail
  refine (RPadC alg a len cap X (below_sl H2.out.2.2 HX.out.1) HX.out.2.1 HX.out.2.2.1 n).mono ?_
  rintro e w3 ⟨v3, rfl, hs3, hb3⟩
  have H3 : Hid (LentR8 w.heap.size w3 (.slice (some ⟨b1, 0, none⟩) len c1) X ∧ Sl .u8 w3 (.slice a2 (padV alg X n).length c2) (padV alg X n) ∧ Sl .u8 w3 v3 (padV alg X n) ∧ Below w.heap.size w w3) := ⟨H2.out.1.below hb3, below_sl hb3 H2.out.2.1, hs3, below_via H2.out.2.2 hb3 (Nat.le_refl _)⟩
  obtain ⟨a3, c3, hf3⟩ := hs3.form
  subst hf3
  clear hs3 hb3
  simp only [HE.out]
  go_wp2_with (first
    | (go_at_call 7; refine (num8_any _ _).mono ?_; rintro e w' ⟨rfl, rfl⟩)
    | (go_at_call 15; refine (SameBytes_any _ _ (padV alg X n) H3.out.2.1 H3.out.2.2.1 (by have := padV_len alg X n; omega)).mono ?_; rintro e w4 ⟨rfl, hb4⟩; have H4 : Hid (LentR8 w.heap.size w4 (.slice (some ⟨b1, 0, none⟩) len c1) X ∧ Below w.heap.size w w4) := ⟨H3.out.1.below hb4, below_via H3.out.2.2.2 hb4 (Nat.le_refl _)⟩; clear hb4)
    | (go_at_call 16; refine (Kept8_any _ _ X H4.out.1 (below_sl H4.out.2 HX.out.1) (by have := HX.out.2.2.1; omega)).mono ?_; rintro e w5 ⟨rfl, hb5⟩; have H5 : Hid (Below w.heap.size w w5) := below_via H4.out.2 hb5 (Nat.le_refl _); clear hb5)
    | (go_at_call 6; refine (live8_any (HX.out.2.2.2.below H5.out)).mono ?_; rintro e w6 ⟨rfl, hb6⟩; have H6 : Hid (Below w.heap.size w w6) := below_via H5.out hb6 (Nat.le_refl _); clear hb6))
  go_ret
  exact ⟨rfl, H6.out⟩
end Go.Proofs.YtkjjfjekpdjboaaDoor
/-
  Digest: New.
-/
namespace Go.Proofs.YtkjjfjekpdjboaaDoor.Sh
open Go.RowKit
set_option maxRecDepth 20000
theorem wpList_buildW {P : Program} {ops : Array Oper} {rest : List Oper} {o : Oper} {a : Act} {w : World} {Q : Exit → Act → World → Prop} (hg : o.guard = none) (t : TypeId) (x : Operand) (ho : o.op = .build t #[(0, x)]) (cells : Array Value) (hx : a.eval x = .agg cells)
    (hr : ∀ w : World, (Instr.build t #[(0, .agg cells)]).run P w = .ok (.agg cells) w)
    (h : wpList P ops Q rest (a.put o.dst (.agg cells)) w) : wpList P ops Q (o :: rest) a w := by
  refine wpList_plain hg fun K hK => ?_
  unfold Oper.wp execOp
  have e : (#[(0, x)] : Array (Nat × Operand)).map (fun p => (p.1, a.eval p.2)) = #[(0, Value.agg cells)] := by simp [hx]
  simp only [ho, e, Sem.run_bind, hr, Sem.run_pure, Result.andThen_ok]
  exact hK _ _ h
end Go.Proofs.YtkjjfjekpdjboaaDoor.Sh
/-
  Digest: Sum of lists.
-/
namespace Go.Proofs.YtkjjfjekpdjboaaDoor.Sh
open Go.RowKit
set_option maxRecDepth 20000
/-- The slice v holds the values vs. -/
def SlS (w : World) (v : Value) (vs : List Value) : Prop :=
  ∃ a c, v = .slice a vs.length c ∧ vs.length ≤ c ∧ (vs = [] ∨ ∃ b off, a = some ⟨b, off, none⟩ ∧ b < w.heap.size ∧ ∀ i, i < vs.length → w.cell? ⟨b, off + i, none⟩ = some (vs.getD i undef))
/-- The values are slices that read the lists. -/
def Msgs (w : World) (vs : List Value) (ms : List (List Int)) : Prop := vs.length = ms.length ∧ ∀ i, i < vs.length → Sl .u8 w (vs.getD i undef) (ms.getD i []) ∧ U8s (ms.getD i [])
theorem Msgs.below {w w' : World} {vs : List Value} {ms : List (List Int)} (h : Msgs w vs ms) (hb : Below w.heap.size w w') : Msgs w' vs ms := ⟨h.1, fun i hi => ⟨below_sl hb (h.2 i hi).1, (h.2 i hi).2⟩⟩
theorem SlS.below {w w' : World} {v : Value} {vs : List Value} (h : SlS w v vs) (hb : Below w.heap.size w w') : SlS w' v vs := by
  obtain ⟨a, c, rfl, hc, h⟩ := h
  refine ⟨a, c, rfl, hc, ?_⟩
  rcases h with h | ⟨b, off, rfl, hbl, hr⟩
  · exact .inl h
  · exact .inr ⟨b, off, rfl, Nat.lt_of_lt_of_le hbl hb.size, fun i hi => (hb.cell (p := ⟨b, off + i, none⟩) hbl).trans (hr i hi)⟩
theorem Sl.x {w w' : World} {v : Value} {xs : List Int} (h : Sl .u8 w v xs) (hb : Below w.heap.size w w') : SlX w' w.heap.size v xs := by
  obtain ⟨a, c, rfl, hc, h⟩ := h
  refine ⟨a, c, rfl, hc, ?_⟩
  rcases h with h | ⟨b, off, rfl, hbl, hr⟩
  · exact .inl h
  · exact .inr ⟨b, off, rfl, Nat.lt_of_lt_of_le hbl hb.size, by omega, below_rd hb hbl hr⟩
theorem flatten_u8 {ms : List (List Int)} (h : ∀ i, i < ms.length → U8s (ms.getD i [])) : U8s ms.flatten := by
  intro x hx
  obtain ⟨l, hl, hxl⟩ := List.mem_flatten.1 hx
  obtain ⟨i, hi, rfl⟩ := List.mem_iff_getElem.1 hl
  have := h i hi
  simp [hi] at this
  exact this x hxl
theorem flatten_take {ms : List (List Int)} {i : Nat} (hi : i < ms.length) : (ms.take (i + 1)).flatten = (ms.take i).flatten ++ ms.getD i [] := by
  rw [List.take_succ_eq_append_getElem hi, List.flatten_append, List.getD_eq_getElem?_getD, List.getElem?_eq_getElem hi]
  simp only [List.flatten_cons, List.flatten_nil, List.append_nil, Option.getD_some]
theorem flatten_take_le (ms : List (List Int)) (i : Nat) : (ms.take i).flatten.length ≤ ms.flatten.length := by
  have h : ms.flatten = (ms.take i).flatten ++ (ms.drop i).flatten := by rw [← List.flatten_append, List.take_append_drop]
  rw [h, List.length_append]; omega
end Go.Proofs.YtkjjfjekpdjboaaDoor.Sh
/-
  Digest: SameBytes, num; known digests.
-/
namespace Go.Proofs.YtkjjfjekpdjboaaDoor.Sh
open Go.RowKit
set_option maxRecDepth 20000
set_option maxHeartbeats 1000000 in
theorem SameBytes_any {w : World} (v u : Value) (xs : List Int) (hx : Sl .u8 w v xs) (hy : Sl .u8 w u xs) (lx : xs.length ≤ 1152921504606846976) :
    Calls Tryd.prog 15 #[v, u] w fun e w' => e = .returned (.bool true) ∧ Below w.heap.size w w' := by
  obtain ⟨a1, c1, rfl, hc1, h1⟩ := hx
  obtain ⟨a2, c2, rfl, hc2, h2⟩ := hy
  by_cases hne : xs = []
  · subst hne
    simp only [List.length_nil]
    go_enter Tryd.func15, Tryd.ntmps15
    go_wp2
    go_loop [5] (fun i => i = .int .i64 0) (fun _ => 0)
    case atStart => rfl
    case round =>
      subst hrel
      go_wp2
      go_ret
      exact ⟨rfl, Below.refl _ _⟩
  · rcases h1 with h1 | ⟨b1, o1, rfl, hb1, hr1⟩
    · exact absurd h1 hne
    rcases h2 with h2 | ⟨b2, o2, rfl, hb2, hr2⟩
    · exact absurd h2 hne
    obtain ⟨n, hn⟩ : ∃ n, xs.length = n := ⟨_, rfl⟩
    rw [hn] at lx hc1 hc2 ⊢
    have HN : Hid (xs.length = n) := hn
    clear hn hne
    go_enter Tryd.func15, Tryd.ntmps15
    go_wp2
    go_loopw [5] (fun i wr => ∃ k : Nat, k ≤ n ∧ i = .int .i64 k ∧ Below w.heap.size w wr) (fun i _ => n - (intOf i).toNat)
    case atStart => exact ⟨0, Nat.zero_le _, rfl, Below.refl _ _⟩
    case round =>
      obtain ⟨k, hk, rfl, hB⟩ := hrel
      by_cases hkn : k < n
      · obtain ⟨x, hx⟩ : ∃ x, xs.getD k 0 = x := ⟨_, rfl⟩
        have hcx : wr.cell? ⟨b1, o1 + k, none⟩ = some (.int .u8 x) := by rw [← hx]; exact (below_rd hB hb1 hr1) k (by rw [HN.out]; exact hkn)
        have hcy : wr.cell? ⟨b2, o2 + k, none⟩ = some (.int .u8 x) := by rw [← hx]; exact (below_rd hB hb2 hr2) k (by rw [HN.out]; exact hkn)
        have HB : Hid (Below w.heap.size w wr) := hB
        clear hx hB hr1 hr2
        go_wp2
        go_quiet (fail)
        go_wp2
        go_roundw
        case rel => exact ⟨k + 1, by omega, by go_num, HB.out.trans ⟨rfl, rfl, rfl, Nat.le_refl _, fun _ _ => rfl⟩⟩
        case measure => simp [intOf]; omega
      · have HB : Hid (Below w.heap.size w wr) := hB
        clear hB
        go_wp2
        go_ret
        exact ⟨rfl, HB.out⟩

set_option maxRecDepth 100000 in
theorem dig_abc : dig 1 [97, 98, 99] = [169, 153, 62, 54, 71, 6, 129, 106, 186, 62, 37, 113, 120, 80, 194, 108, 156, 208, 216, 157] := by decide +kernel
end Go.Proofs.YtkjjfjekpdjboaaDoor.Sh
/-
  Digest: live: the page's example.
-/
namespace Go.Proofs.YtkjjfjekpdjboaaDoor.Sh
open Go.RowKit
set_option maxRecDepth 20000
theorem arr_newB {k : IntKind} {e : TypeId} {w : World} {S : List Int} {cs : List Value} (h : cs = S.map (Value.int k)) : Arr k e (w.alloc (.cells cs.toArray e)) w.heap.size S := by subst h; exact Blk.new e w _
theorem Arr.sl {k : IntKind} {e : TypeId} {w : World} {b : Nat} {S : List Int} (h : Arr k e w b S) : Sl k w (.slice (some ⟨b, 0, none⟩) S.length S.length) S :=
  ⟨_, _, rfl, Nat.le_refl _, .inr ⟨b, 0, rfl, h.lt, by have := h.rd 0 S.length (by omega); simpa using this⟩⟩
theorem Blk.sls {T : TypeId} {w : World} {b : Nat} {vs : List Value} (h : Blk T w b vs) : SlS w (.slice (some ⟨b, 0, none⟩) vs.length vs.length) vs :=
  ⟨_, _, rfl, Nat.le_refl _, .inr ⟨b, 0, rfl, h.lt, fun i hi => by rw [h.cell]; simp [hi]⟩⟩
theorem bytes3_u8 : U8s [97, 98, 99] := by intro x hx; unfold U8; simp at hx; omega
theorem Tryd.e8 : Tryd.prog.underlying 5 = some (.int .u8) := by kernel_rfl
theorem Tryd.str : Tryd.prog.underlying 9 = some .string := by kernel_rfl
/-- A new row of numbers, marked or not, reads them. -/
theorem new_sl {k : IntKind} {e : TypeId} {w : World} (S : List Int) (fr : Nat × Nat) : Sl k (w.alloc (.cells (S.map (Value.int k)).toArray e fr)) (.slice (some ⟨w.heap.size, 0, none⟩) S.length S.length) S :=
  ⟨_, _, rfl, Nat.le_refl _, .inr ⟨w.heap.size, 0, rfl, by simp, fun i hi => by
    rw [cell_of_row _ _ _ (S.map (Value.int k)).toArray e fr (heap_alloc_new _ _)]
    simp [hi]⟩⟩
theorem sl_alloc {k : IntKind} {w : World} {v : Value} {S : List Int} (h : Sl k w v S) (o : Obj) : Sl k (w.alloc o) v S := below_sl ((Below.refl _ _).alloc (Nat.le_refl _) o) h
theorem msgs1 {w : World} {v : Value} {m : List Int} (h : Sl .u8 w v m) (u : U8s m) : Msgs w [v] [m] := ⟨rfl, fun i hi => by
  obtain rfl : i = 0 := by simp at hi; omega
  exact ⟨h, u⟩⟩
theorem to_str {w : World} {d n : Nat} {xs : List Int} (h : Arr .u8 5 w d xs) (hn : xs.length = n) : Sem.run Tryd.prog (convert 31 9 (.slice (some ⟨d, 0, none⟩) n n)) w = .ok (.string (strOfNums xs)) w :=
  run_convert_bytes_arg w _ _ Tryd.und8 Tryd.e8 d 0 n n xs hn (fun i hi => by rw [Nat.zero_add]; exact h.cell i (by omega)) _ Tryd.str
end Go.Proofs.YtkjjfjekpdjboaaDoor.Sh
/-
  Digest: the law DigestApart: two digests under way know nothing of one another.
-/
namespace Go.Proofs.YtkjjfjekpdjboaaDoor.Sh
open Go.RowKit
set_option maxRecDepth 20000
theorem msgs2 {w : World} {v u : Value} {m n : List Int} (h : Sl .u8 w v m) (um : U8s m) (h' : Sl .u8 w u n) (un : U8s n) : Msgs w [v, u] [m, n] := ⟨rfl, fun i hi => by
  match i, hi with
  | 0, _ => exact ⟨h, um⟩
  | 1, _ => exact ⟨h', un⟩⟩
/-- A digest in a block of its own, from B on. -/
def Dg (B : Nat) (w : World) (v : Value) (xs : List Int) : Prop := ∃ d n, v = .slice (some ⟨d, 0, none⟩) n n ∧ xs.length = n ∧ B ≤ d ∧ Arr .u8 5 w d xs
theorem Dg.sl {B : Nat} {w : World} {v : Value} {xs : List Int} (h : Dg B w v xs) : Sl .u8 w v xs := by
  obtain ⟨d, n, rfl, rfl, _, hA⟩ := h; exact Arr.sl hA
theorem Dg.below {B : Nat} {w w' : World} {v : Value} {xs : List Int} (h : Dg B w v xs) (hb : Below w.heap.size w w') : Dg B w' v xs := by
  obtain ⟨d, n, rfl, hn, hB, hA⟩ := h; exact ⟨d, n, rfl, hn, hB, below_arr hb hA.lt hA⟩
theorem dig_short (alg : Int) (msg : List Int) : (dig alg msg).length ≤ 1152921504606846976 := by rw [dig_len]; have := siz_le alg; omega
theorem sls2 {w : World} {T : TypeId} (v u : Value) : SlS (w.alloc (.cells #[v, u] T)) (.slice (some ⟨w.heap.size, 0, none⟩) 2 2) [v, u] := Blk.sls (Blk.new T w [v, u])
theorem sls1 {w : World} {T : TypeId} (v : Value) : SlS (w.alloc (.cells #[v] T)) (.slice (some ⟨w.heap.size, 0, none⟩) 1 1) [v] := Blk.sls (Blk.new T w [v])
theorem al1 {w : World} (o : Obj) : Below w.heap.size w (w.alloc o) := (Below.refl _ _).alloc (Nat.le_refl _) o
theorem below_via {B : Nat} {w w1 w2 : World} (h : Below B w w1) (h' : Below w1.heap.size w1 w2) (hB : B ≤ w.heap.size) : Below B w w2 := h.trans (h'.mono (Nat.le_trans hB h.size))
end Go.Proofs.YtkjjfjekpdjboaaDoor.Sh
/-
  Digest: the reference's left, right, turn, filled.
-/
namespace Go.Proofs.YtkjjfjekpdjboaaDoor.Sh
open Go.RowKit
set_option maxRecDepth 20000
theorem bits_or_comm (k : IntKind) (x y : Int) : bits .or k x y = bits .or k y x := by unfold bits; simp only []; rw [BitVec.or_comm]

set_option maxHeartbeats 1000000 in
theorem left_nat {w : World} (x : Int) (n : Nat) (hx : U32 x) (h1 : 1 ≤ n) (h2 : n ≤ 31) :
    Calls Tryd.prog 60 #[.int .u32 x, .int .i64 n] w fun e w' => e = .returned (.int .u32 (rot32 x n)) ∧ ∃ q, w' = w.drewN q := by
  obtain ⟨hx0, hx1⟩ := hx
  obtain ⟨m, hm⟩ : ∃ m, 32 - n = m := ⟨_, rfl⟩
  have hmI : (32 : Int) - (n : Int) = (m : Int) := by omega
  have HV : Hid (rot32 x n = bits .or .u32 (IntKind.u32.wrap (x * 2 ^ n)) (x / 2 ^ m)) := by unfold rot32; rw [hm]; rfl
  have hm0 : m ≤ 32 := by omega
  clear hm
  go_enter Tryd.func60, Tryd.ntmps60
  go_wp2
  go_quiet (fail)
  go_wp2
  go_ret
  exact ⟨by rw [HV.out]; rfl, _, rfl⟩
theorem left_I (x n : Int) (w : World) (hx : U32 x) (h : 1 ≤ n ∧ n ≤ 31) :
    Calls Tryd.prog 60 #[.int .u32 x, .int .i64 n] w fun e w' => e = .returned (.int .u32 (rot32 x n.toNat)) ∧ ∃ q, w' = w.drewN q := by
  obtain ⟨n, rfl⟩ := Int.eq_ofNat_of_zero_le (show 0 ≤ n by omega)
  rw [Int.toNat_natCast]
  exact left_nat x n hx (by omega) (by omega)

set_option maxHeartbeats 1000000 in
theorem right_nat {w : World} (x : Int) (n : Nat) (hx : U32 x) (h1 : 1 ≤ n) (h2 : n ≤ 31) :
    Calls Tryd.prog 62 #[.int .u32 x, .int .i64 n] w fun e w' => e = .returned (.int .u32 (rot32 x (32 - n))) ∧ ∃ q, w' = w.drewN q := by
  obtain ⟨hx0, hx1⟩ := hx
  obtain ⟨m, hm⟩ : ∃ m, 32 - n = m := ⟨_, rfl⟩
  have hmI : (32 : Int) - (n : Int) = (m : Int) := by omega
  have HV : Hid (rot32 x (32 - n) = bits .or .u32 (x / 2 ^ n) (IntKind.u32.wrap (x * 2 ^ m))) := by unfold rot32; rw [hm, show 32 - m = n by omega]; exact bits_or_comm _ _ _
  have hm0 : m ≤ 32 := by omega
  clear hm
  go_enter Tryd.func62, Tryd.ntmps62
  go_wp2
  go_quiet (fail)
  go_wp2
  go_ret
  exact ⟨by rw [HV.out]; rfl, _, rfl⟩
theorem right_I (x n : Int) (w : World) (hx : U32 x) (h : 1 ≤ n ∧ n ≤ 31) :
    Calls Tryd.prog 62 #[.int .u32 x, .int .i64 n] w fun e w' => e = .returned (.int .u32 (rot32 x (32 - n.toNat))) ∧ ∃ q, w' = w.drewN q := by
  obtain ⟨n, rfl⟩ := Int.eq_ofNat_of_zero_le (show 0 ≤ n by omega)
  rw [Int.toNat_natCast]
  exact right_nat x n hx (by omega) (by omega)

set_option maxHeartbeats 1000000 in
theorem turn_nat {w : World} (x : Int) (n : Nat) (hx : U64 x) (h1 : 1 ≤ n) (h2 : n ≤ 63) :
    Calls Tryd.prog 64 #[.int .u64 x, .int .i64 n] w fun e w' => e = .returned (.int .u64 (rot64 x (64 - n))) ∧ ∃ q, w' = w.drewN q := by
  obtain ⟨hx0, hx1⟩ := hx
  obtain ⟨m, hm⟩ : ∃ m, 64 - n = m := ⟨_, rfl⟩
  have hmI : (64 : Int) - (n : Int) = (m : Int) := by omega
  have HV : Hid (rot64 x (64 - n) = bits .or .u64 (x / 2 ^ n) (IntKind.u64.wrap (x * 2 ^ m))) := by unfold rot64; rw [hm, show 64 - m = n by omega]; exact bits_or_comm _ _ _
  have hm0 : m ≤ 64 := by omega
  clear hm
  go_enter Tryd.func64, Tryd.ntmps64
  go_wp2
  go_quiet (fail)
  go_wp2
  go_ret
  exact ⟨by rw [HV.out]; rfl, _, rfl⟩
theorem turn_I (x n : Int) (w : World) (hx : U64 x) (h : 1 ≤ n ∧ n ≤ 63) :
    Calls Tryd.prog 64 #[.int .u64 x, .int .i64 n] w fun e w' => e = .returned (.int .u64 (rot64 x (64 - n.toNat))) ∧ ∃ q, w' = w.drewN q := by
  obtain ⟨n, rfl⟩ := Int.eq_ofNat_of_zero_le (show 0 ≤ n by omega)
  rw [Int.toNat_natCast]
  exact turn_nat x n hx (by omega) (by omega)
end Go.Proofs.YtkjjfjekpdjboaaDoor.Sh
