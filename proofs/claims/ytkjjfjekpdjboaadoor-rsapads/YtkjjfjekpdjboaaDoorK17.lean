/-
  Rsa: the reference's Pad.
-/
import Derived.Test.YtkjjfjekpdjboaaDoorRows
import Derived.Lib.LaidTab
import Derived.LaidSub
import Derived.MakeChecks
import Derived.OpenShut
import Derived.ProofKit
import Derived.Test.YtkjjfjekpdjboaaDoorK16
namespace Go.Proofs.YtkjjfjekpdjboaaDoor
open Go.RowKit
set_option maxRecDepth 20000
theorem Tryd.one_int : (Tryd.prog.info? 3).map (·.size) = some 1 := by kernel_rfl
theorem RSize8 {w : World} (alg : Int) : Calls Tryd.prog 27 #[.int .i64 alg] w fun e w' => e = .returned (.int .i64 (Sh.siz alg)) ∧ w = w' := by
  unfold Sh.siz
  by_cases h1 : alg = 1
  · subst h1
    have hx : ∀ w' : World, Sem.run Tryd.prog (Instr.index 68 (.agg #[.int .i64 20, .int .i64 32, .int .i64 48, .int .i64 64]) (.int .i64 0)) w' = .ok (.int .i64 20) w' := fun w' => run_index_row w' _ _ 4 .i64 [20, 32, 48, 64] 0 Tryd.underlying68 Tryd.underlying3 Tryd.one_int rfl (by decide)
    go_enter Tryd.func27, Tryd.ntmps27; go_wp2; go_ret; exact ⟨rfl, rfl⟩
  by_cases h2 : alg = 2
  · subst h2
    have hx : ∀ w' : World, Sem.run Tryd.prog (Instr.index 68 (.agg #[.int .i64 20, .int .i64 32, .int .i64 48, .int .i64 64]) (.int .i64 1)) w' = .ok (.int .i64 32) w' := fun w' => run_index_row w' _ _ 4 .i64 [20, 32, 48, 64] 1 Tryd.underlying68 Tryd.underlying3 Tryd.one_int rfl (by decide)
    go_enter Tryd.func27, Tryd.ntmps27; go_wp2; go_ret; exact ⟨rfl, rfl⟩
  by_cases h3 : alg = 3
  · subst h3
    have hx : ∀ w' : World, Sem.run Tryd.prog (Instr.index 68 (.agg #[.int .i64 20, .int .i64 32, .int .i64 48, .int .i64 64]) (.int .i64 2)) w' = .ok (.int .i64 48) w' := fun w' => run_index_row w' _ _ 4 .i64 [20, 32, 48, 64] 2 Tryd.underlying68 Tryd.underlying3 Tryd.one_int rfl (by decide)
    go_enter Tryd.func27, Tryd.ntmps27; go_wp2; go_ret; exact ⟨rfl, rfl⟩
  by_cases h4 : alg = 4
  · subst h4
    have hx : ∀ w' : World, Sem.run Tryd.prog (Instr.index 68 (.agg #[.int .i64 20, .int .i64 32, .int .i64 48, .int .i64 64]) (.int .i64 3)) w' = .ok (.int .i64 64) w' := fun w' => run_index_row w' _ _ 4 .i64 [20, 32, 48, 64] 3 Tryd.underlying68 Tryd.underlying3 Tryd.one_int rfl (by decide)
    go_enter Tryd.func27, Tryd.ntmps27; go_wp2; go_ret; exact ⟨rfl, rfl⟩
  rw [if_neg h1, if_neg h2, if_neg h3, if_neg h4]
  by_cases h5 : alg < 1
  · go_enter Tryd.func27, Tryd.ntmps27; go_wp2; go_ret; exact ⟨rfl, rfl⟩
  · have h6 : 4 < alg := by omega
    go_enter Tryd.func27, Tryd.ntmps27; go_wp2; go_ret; exact ⟨rfl, rfl⟩
theorem ROid8 {w : World} (alg : Int) (ha : Alg4 alg) : Calls Tryd.prog 34 #[.int .i64 alg] w fun e w' => e = .returned (.string (strOfNums (oidY alg))) ∧ w = w' := by
  rcases ha with rfl | rfl | rfl | rfl
  all_goals (go_enter Tryd.func34, Tryd.ntmps34; go_wp2; go_ret; exact ⟨congrArg (fun s => Ending.returned (Value.string s)) (by decide +kernel), rfl⟩)
theorem rput8 {w : World} (tag : Nat) (ht1 : 1 ≤ tag) (ht : tag < 31) (a : Option Addr) (n cp : Nat) (vs : List Value) (ms : List (List Int)) (hL : Lists w a n cp vs ms) (hn : n ≤ 1000) (h128 : ms.flatten.length < 128) (co : Bool) (hc : co = decide (tag = 16)) :
    Calls Tryd.prog 53 #[.int .i64 0, .int .i64 tag, .bool co, .slice a n cp] w fun e w' => ∃ r, e = .returned (.tuple #[r, .int .i64 0]) ∧ Row .u8 5 w.heap.size w' r (elB tag ms.flatten) ∧ Below w.heap.size w w' := by
  obtain ⟨N, hN⟩ : ∃ N, ms.flatten.length = N := ⟨_, rfl⟩
  have hl : ∃ l : Nat, N / 256 ^ l = 0 ∧ (∀ j, j < l → 0 < N / 256 ^ j) ∧ l ≤ 7 := by
    by_cases h0 : N = 0
    · exact ⟨0, by simp [h0], by omega, by omega⟩
    · refine ⟨1, by omega, fun j hj => ?_, by omega⟩
      obtain rfl : j = 0 := by omega
      simp; omega
  obtain ⟨l, hl0, hl1, hl7⟩ := hl
  have hE : headB 0 co tag 0 ++ lenB N l ++ ms.flatten = elB tag ms.flatten := by
    unfold headB lenB elB frst
    have h1 : N < 128 := by omega
    rw [hc, hN]
    by_cases h : tag = 16
    · simp [h, h1]
    · simp [h, h1, ht]
  have := RPut_any (w := w) 0 tag 0 l co a n cp N vs ms hL hN (by omega) (by omega) (by unfold headOk; simp; omega) (by simp; omega) (by omega) (by omega) hl0 hl1 hl7
  rw [hE] at this
  exact this
set_option maxHeartbeats 1000000 in
theorem Prim8 {w : World} (tag : Nat) (ht1 : 1 ≤ tag) (ht : tag < 16) (a : Option Addr) (n cp : Nat) (X : List Int) (hX : Sl .u8 w (.slice a n cp) X) (uX : U8s X) (h128 : X.length < 128) :
    Calls Tryd.prog 35 #[.int .i64 tag, .slice a n cp] w fun e w' => ∃ r, e = .returned r ∧ Row .u8 5 w.heap.size w' r (elB tag X) ∧ Below w.heap.size w w' := by
  have HP : Hid (∀ o, o = .cells #[.slice a n cp] 31 → Calls Tryd.prog 53 #[.int .i64 0, .int .i64 tag, .bool false, .slice (some ⟨w.heap.size, 0, none⟩) 1 1] (w.alloc o) fun e w' => ∃ r, e = .returned (.tuple #[r, .int .i64 0]) ∧ Row .u8 5 w.heap.size w' r (elB tag X) ∧ Below w.heap.size w w') := fun o ho => by
    subst ho
    refine (rput8 tag ht1 (by omega) _ 1 1 _ [X] (lists1 hX uX) (by decide) (by simpa using h128) false (by simp; omega)).mono ?_
    rintro e w' ⟨r, rfl, hr, hb⟩
    refine ⟨r, rfl, ?_, below_via (al1 _) hb (Nat.le_refl _)⟩
    have := hr.mono (B' := w.heap.size) (by simp)
    simpa using this
  clear hX uX
  go_enter Tryd.func35, Tryd.ntmps35
  go_wp2_with (go_at_call 53; refine (HP.out _ rfl).mono ?_; rintro e w2 ⟨r, rfl, hr, hb⟩; have HR : Hid (Row .u8 5 w.heap.size w2 r (elB tag X) ∧ Below w.heap.size w w2) := ⟨hr, hb⟩; clear hr hb)
  go_ret
  exact ⟨r, rfl, HR.out⟩
set_option maxHeartbeats 1000000 in
theorem Seq8 {w : World} (a : Option Addr) (n cp : Nat) (vs : List Value) (ms : List (List Int)) (hL : Lists w a n cp vs ms) (hn : n ≤ 1000) (h128 : ms.flatten.length < 128) :
    Calls Tryd.prog 32 #[.int .i64 16, .slice a n cp] w fun e w' => ∃ r, e = .returned r ∧ Row .u8 5 w.heap.size w' r (elB 16 ms.flatten) ∧ Below w.heap.size w w' := by
  have HP : Hid (∀ w', w' = w → Calls Tryd.prog _ _ w' _) := fun w' hw => by rw [hw]; exact rput8 16 (by decide) (by decide) a n cp vs ms hL hn h128 true (by decide)
  clear hL
  go_enter Tryd.func32, Tryd.ntmps32
  go_wp2_with (go_at_call 53; refine (HP.out _ rfl).mono ?_; rintro e w2 ⟨r, rfl, hr, hb⟩; have HR : Hid (Row .u8 5 w.heap.size w2 r (elB 16 ms.flatten) ∧ Below w.heap.size w w2) := ⟨hr, hb⟩; clear hr hb)
  go_ret
  exact ⟨r, rfl, HR.out⟩
set_option maxHeartbeats 1000000 in
theorem OidOf8 {w : World} (alg : Int) (ha : Alg4 alg) : Calls Tryd.prog 33 #[.string (strOfNums (oidY alg))] w fun e w' => ∃ r, e = .returned r ∧ Row .u8 5 w.heap.size w' r (elB 6 (oidB alg)) ∧ Below w.heap.size w w' := by
  go_enter Tryd.func33, Tryd.ntmps33
  go_wp2_with fail
  refine (RPutOid_any (oidY alg) (oidY_u8 ha).1 (oidY_u8 ha).2).mono ?_
  rintro e w1 ⟨⟨r1, b1, er1, hp, rfl, hs1⟩, hb1⟩
  obtain ⟨rfl, rfl⟩ := hp.uniq (oidR ha)
  obtain ⟨a1, c1, rfl⟩ := hs1.form
  have H1 : Hid (Sl .u8 w1 (.slice a1 (oidB alg).length c1) (oidB alg) ∧ Below w.heap.size w w1) := ⟨hs1, hb1⟩
  clear hs1 hb1 hp
  go_wp2_with (go_at_call 35; refine (Prim8 6 (by decide) (by decide) _ _ _ (oidB alg) H1.out.1 (oidB_u8 ha).1 (by have := (oidB_u8 ha).2; omega)).mono ?_; rintro e w2 ⟨r, rfl, hr, hb⟩; have HR : Hid (Row .u8 5 w.heap.size w2 r (elB 6 (oidB alg)) ∧ Below w.heap.size w w2) := ⟨hr.mono H1.out.2.size, below_via H1.out.2 hb (Nat.le_refl _)⟩; clear hr hb)
  go_ret
  exact ⟨r, rfl, HR.out⟩
end Go.Proofs.YtkjjfjekpdjboaaDoor
/-
  Rsa: the reference's Pad, walked.
-/
namespace Go.Proofs.YtkjjfjekpdjboaaDoor
open Go.RowKit
set_option maxRecDepth 20000
set_option maxHeartbeats 1000000 in
theorem RPad_arg {w : World} (alg : Int) (a : Option Addr) (len cap : Nat) (n : Int) (h : isD alg len = false ∨ 2048 < n) : Calls Tryd.prog 18 #[.int .i64 alg, .slice a len cap, .int .i64 n] w fun e w' => e = .returned (.tuple #[.slice none 0 0, .int .i64 1]) ∧ w' = w := by
  obtain ⟨z, hz⟩ : ∃ z, Sh.siz alg = z := ⟨_, rfl⟩
  have HS : Hid (∀ w' : World, Calls Tryd.prog 27 #[.int .i64 alg] w' fun e w'' => e = .returned (.int .i64 z) ∧ w' = w'') := fun w' => by rw [← hz]; exact RSize8 alg
  have hd : isD alg len = decide (0 < z ∧ len = z) := by unfold isD; rw [hz]
  rw [hd] at h
  clear hd hz
  by_cases h0 : z = 0
  · subst h0
    go_enter Tryd.func18, Tryd.ntmps18
    go_wp2_with (go_at_call 27; refine (HS.out _).mono ?_; rintro e w' ⟨rfl, rfl⟩)
    go_ret2
    exact ⟨rfl, rfl⟩
  have d0 : ((z : Int) == 0) = false := by simp; omega
  by_cases h1 : len = z
  · have h2 : 2048 < n := by rcases h with h | h; simp at h; omega; exact h
    have d1 : ((len : Int) != (z : Int)) = false := by simp [h1]
    have d2 : decide ((2048 : Int) < n) = true := by simpa using h2
    clear h h1
    go_enter Tryd.func18, Tryd.ntmps18
    go_wp2_with (go_at_call 27; refine (HS.out _).mono ?_; rintro e w' ⟨rfl, rfl⟩)
    go_ret2
    exact ⟨rfl, rfl⟩
  · have d1 : ((len : Int) != (z : Int)) = true := by simp; omega
    clear h
    go_enter Tryd.func18, Tryd.ntmps18
    go_wp2_with (go_at_call 27; refine (HS.out _).mono ?_; rintro e w' ⟨rfl, rfl⟩)
    go_ret2
    exact ⟨rfl, rfl⟩
end Go.Proofs.YtkjjfjekpdjboaaDoor
/-
  Rsa: the reference's Pad, where the digest is one.
-/
namespace Go.Proofs.YtkjjfjekpdjboaaDoor
open Go.RowKit
set_option maxRecDepth 20000
theorem isD_len' {alg : Int} {len : Nat} (h : isD alg len = true) : Alg4 alg ∧ len = Sh.siz alg ∧ len ≤ 64 := by
  unfold isD at h
  simp only [decide_eq_true_eq] at h
  exact ⟨siz_pos.1 h.1, h.2, by rw [h.2]; exact Sh.siz_le alg⟩
/-- What the reference's Pad tells. -/
def RPadAns (alg : Int) (X : List Int) (n : Int) (w : World) (e : Ending) (w' : World) : Prop :=
  (n < (namB alg X).length + 11 ∧ e = .returned (.tuple #[.slice none 0 0, .int .i64 2]) ∧ Below w.heap.size w w') ∨
  ((namB alg X).length + 11 ≤ n ∧ ∃ r, e = .returned (.tuple #[r, .int .i64 0]) ∧ Sl .u8 w' r (padB alg X n.toNat) ∧ Below w.heap.size w w')
set_option maxHeartbeats 4000000 in
theorem RPad_any {w : World} (alg : Int) (a : Option Addr) (len cap : Nat) (X : List Int) (hX : Sl .u8 w (.slice a len cap) X) (uX : U8s X) (hl : X.length = len) (hD : isD alg len = true) (n : Int) (hn : n ≤ 2048) :
    Calls Tryd.prog 18 #[.int .i64 alg, .slice a len cap, .int .i64 n] w fun e w' => RPadAns alg X n w e w' := by
  obtain ⟨ha, h0, h64⟩ := isD_len' hD
  have HS : Hid (∀ w' : World, Calls Tryd.prog 27 #[.int .i64 alg] w' fun e w'' => e = .returned (.int .i64 len) ∧ w' = w'') := fun w' => by rw [h0]; exact RSize8 alg
  have hl0 : 0 < len := by rw [h0]; exact siz_pos.2 ha
  have d0 : ((len : Int) == 0) = false := by simp; omega
  have d2 : decide ((2048 : Int) < n) = false := by simp; omega
  have HX : Hid (Sl .u8 w (.slice a len cap) X ∧ U8s X ∧ X.length = len ∧ U8s (oidB alg) ∧ (oidB alg).length ≤ 9) := ⟨hX, uX, hl, (oidB_u8 ha).1, (oidB_u8 ha).2⟩
  clear h0 hX uX hl hD
  go_enter Tryd.func18, Tryd.ntmps18
  go_upto_region 3 with (go_at_call 27; refine (HS.out _).mono ?_; rintro e w' ⟨rfl, rfl⟩)
  go_wp2_with (go_at_call 34; refine (ROid8 alg ha).mono ?_; rintro e w' ⟨rfl, rfl⟩)
  refine (OidOf8 alg ha).mono ?_
  rintro e w2 ⟨r2, rfl, hr2, hb2⟩
  have H2 : Hid (Sl .u8 w2 r2 (elB 6 (oidB alg)) ∧ Below w.heap.size w w2) := ⟨hr2.sl, hb2⟩
  obtain ⟨a2, c2, hf2⟩ := H2.out.1.form
  subst hf2
  clear hr2 hb2
  go_wp2_with fail
  refine (Prim8 5 (by decide) (by decide) none 0 0 [] (nil_sl _) nil_u8 (by decide)).mono ?_
  rintro e w3 ⟨r3, rfl, hr3, hb3⟩
  have H3 : Hid (Sl .u8 w3 (.slice a2 (elB 6 (oidB alg)).length c2) (elB 6 (oidB alg)) ∧ Sl .u8 w3 r3 (elB 5 []) ∧ Below w.heap.size w w3) := ⟨below_sl hb3 H2.out.1, hr3.sl, below_via H2.out.2 hb3 (Nat.le_refl _)⟩
  obtain ⟨a3, c3, hf3⟩ := H3.out.2.1.form
  subst hf3
  clear hr3 hb3
  go_wp2_with fail
  refine (Seq8 _ 2 2 _ [elB 6 (oidB alg), elB 5 []] (lists2 H3.out.1 (elB_u8 (by decide) HX.out.2.2.2.1 (by have := HX.out.2.2.2.2; omega)) H3.out.2.1 (elB_u8 (by decide) nil_u8 (by decide))) (by decide) (by have := HX.out.2.2.2.2; simp [elB_len]; omega)).mono ?_
  rintro e w4 ⟨r4, rfl, hr4, hb4⟩
  have H4 : Hid (Sl .u8 w4 r4 (elB 16 (elB 6 (oidB alg) ++ elB 5 [])) ∧ Below w.heap.size w w4) := ⟨by have := hr4.sl; simpa using this, below_via H3.out.2.2 (below_via (al1 _) hb4 (Nat.le_refl _)) (Nat.le_refl _)⟩
  obtain ⟨a4, c4, hf4⟩ := H4.out.1.form
  subst hf4
  clear hr4 hb4
  go_wp2_with fail
  refine (Prim8 4 (by decide) (by decide) a len cap X (below_sl H4.out.2 HX.out.1) HX.out.2.1 (by have := HX.out.2.2.1; omega)).mono ?_
  rintro e w5 ⟨r5, rfl, hr5, hb5⟩
  have H5 : Hid (Sl .u8 w5 (.slice a4 (elB 16 (elB 6 (oidB alg) ++ elB 5 [])).length c4) (elB 16 (elB 6 (oidB alg) ++ elB 5 [])) ∧ Sl .u8 w5 r5 (elB 4 X) ∧ Below w.heap.size w w5) := ⟨below_sl hb5 H4.out.1, hr5.sl, below_via H4.out.2 hb5 (Nat.le_refl _)⟩
  obtain ⟨a5, c5, hf5⟩ := H5.out.2.1.form
  subst hf5
  clear hr5 hb5
  go_wp2_with fail
  refine (Seq8 _ 2 2 _ [elB 16 (elB 6 (oidB alg) ++ elB 5 []), elB 4 X] (lists2 H5.out.1 (elB_u8 (by decide) ((elB_u8 (by decide) HX.out.2.2.2.1 (by have := HX.out.2.2.2.2; omega)).append (elB_u8 (by decide) nil_u8 (by decide))) (by have := HX.out.2.2.2.2; simp [elB_len]; omega)) H5.out.2.1 (elB_u8 (by decide) HX.out.2.1 (by have := HX.out.2.2.1; omega))) (by decide) (by have := HX.out.2.2.2.2; have := HX.out.2.2.1; simp [elB_len]; omega)).mono ?_
  rintro e w6 ⟨r6, rfl, hr6, hb6⟩
  obtain ⟨t, ht⟩ : ∃ t, (namB alg X).length = t := ⟨_, rfl⟩
  have hsn : Sl .u8 w6 r6 (namB alg X) := by have := hr6.sl; unfold namB; simpa using this
  obtain ⟨a6, c6, hf6⟩ := hsn.form
  rw [ht] at hf6
  subst hf6
  have htl := namB_len alg X
  have H6 : Hid (Sl .u8 w6 (.slice a6 t c6) (namB alg X) ∧ Below w.heap.size w w6 ∧ (namB alg X).length = t) := ⟨hsn, below_via H5.out.2.2 (below_via (al1 _) hb6 (Nat.le_refl _)) (Nat.le_refl _), ht⟩
  have ht2 : t ≤ 200 ∧ 10 ≤ t := by have := HX.out.2.2.2.2; have := HX.out.2.2.1; omega
  clear hr6 hb6 hsn htl ht
  by_cases hs : n < t + 11
  · have hs2 : n < 11 ∨ n - 11 < (t : Int) := by omega
    by_cases hs3 : n < 11
    · have d3 : decide (n < 11) = true := by simpa using hs3
      go_wp2_with fail
      go_ret2
      exact Or.inl ⟨by rw [H6.out.2.2]; exact hs, rfl, H6.out.2.1⟩
    · have d3 : decide (n < 11) = false := by simpa using hs3
      have d4 : decide (n - 11 < (t : Int)) = true := by simp; omega
      go_wp2_with fail
      go_ret2
      exact Or.inl ⟨by rw [H6.out.2.2]; exact hs, rfl, H6.out.2.1⟩
  · obtain ⟨N, rfl⟩ : ∃ N : Nat, n = N := ⟨n.toNat, by omega⟩
    have d3 : decide ((N : Int) < 11) = false := by simp; omega
    have d4 : decide ((N : Int) - 11 < (t : Int)) = false := by simp; omega
    have hNt : t + 11 ≤ N := by omega
    go_wp2_with fail
    obtain ⟨k, hk⟩ : ∃ k, N - t - 1 = k := ⟨_, rfl⟩
    have hkI : (N : Int) - 1 - (t : Int) = (k : Int) := by omega
    have HN : Hid (N = t + 1 + k ∧ 10 ≤ k) := ⟨by omega, by omega⟩
    have hk2 : k ≤ 2048 := by omega
    clear hk
    go_loopw [9] (fun ov wr => ∃ j : Nat, 2 + j ≤ k ∧ Row .u8 5 w6.heap.size wr ov (0 :: 1 :: List.replicate j 255) ∧ Below w6.heap.size w6 wr) (fun ov _ => k - Sh.lenOf ov)
    case atStart =>
      refine ⟨0, by have := HN.out.2; omega, ?_, al1 _⟩
      exact Row.arr (S := [0, 1]) (arr_newB rfl) (Nat.le_refl _) (by decide)
    case round =>
      obtain ⟨j, hj, hr, hbw⟩ := hrel
      obtain ⟨ao, co, hfo⟩ := hr.ne
      have hll : (0 :: 1 :: List.replicate j (255 : Int)).length = 2 + j := by simp; omega
      rw [hll] at hfo
      subst hfo
      have HR : Hid (Row .u8 5 w6.heap.size wr (.slice ao (2 + j) co) (0 :: 1 :: List.replicate j 255) ∧ Below w6.heap.size w6 wr) := ⟨hr, hbw⟩
      clear hr hbw hll
      by_cases hlt : 2 + j < k
      · have d5 : decide (((2 + j : Nat) : Int) < (k : Int)) = true := by simp; omega
        have hltI : ((2 + j : Nat) : Int) < (k : Int) := by omega
        go_wp2_with (at_builtin; refine wpList_ap rfl (.tmp 52) (.tmp 53) 31 31 rfl .u8 5 1 Tryd.und8 Tryd.info8 (by decide) w6.heap.size _ (0 :: 1 :: List.replicate j 255) rfl (HR.out.1.alloc _) _ [255] rfl (src_sl Tryd.und8 (new1 _)) (by simp; omega) (by have := HR.out.2.size; simp; omega) ?_; intro v7 w7 hr7 hg7; have H7 : Hid (Row .u8 5 w6.heap.size w7 v7 (0 :: 1 :: List.replicate (j + 1) 255) ∧ Below w6.heap.size w6 w7) := ⟨by rw [List.replicate_succ']; exact hr7, (HR.out.2.trans ((al1 _).mono HR.out.2.size)).trans (hg7.below (HR.out.1.alloc _) (by have := HR.out.2.size; simp; omega))⟩; clear hr7 hg7)
        obtain ⟨a7, c7, hv7⟩ := H7.out.1.ne
        refine ⟨⟨j + 1, by omega, H7.out⟩, ?_⟩
        rw [hv7]
        simp only [Sh.lenOf, List.length_cons, List.length_replicate]
        omega
      · have d5 : decide (((2 + j : Nat) : Int) < (k : Int)) = false := by simp; omega
        have hjk : 2 + j = k := by omega
        have HP : Hid ((0 :: 1 :: List.replicate j (255 : Int)) ++ [0] ++ namB alg X = padB alg X N) := by
          show _ = _
          unfold padB
          rw [H6.out.2.2, show N - t - 3 = j by have := HN.out.1; omega]
          simp
        have hNj : N ≤ 2048 := by omega
        clear hjk
        go_wp2_with (first
          | (at_builtin; refine wpList_ap rfl (.tmp 55) (.tmp 56) 31 31 rfl .u8 5 1 Tryd.und8 Tryd.info8 (by decide) w6.heap.size _ (0 :: 1 :: List.replicate j 255) rfl (HR.out.1.alloc _) _ [0] rfl (src_sl Tryd.und8 (new1 _)) (by simp; omega) (by have := HR.out.2.size; simp; omega) ?_; intro v7 w7 hr7 hg7; have H7 : Hid (Row .u8 5 w6.heap.size w7 v7 ((0 :: 1 :: List.replicate j 255) ++ [0]) ∧ Below w6.heap.size w6 w7) := ⟨hr7, (HR.out.2.trans ((al1 _).mono HR.out.2.size)).trans (hg7.below (HR.out.1.alloc _) (by have := HR.out.2.size; simp; omega))⟩; clear hr7 hg7)
          | (at_builtin; refine wpList_ap rfl (.tmp 57) (.tmp 58) 31 31 rfl .u8 5 1 Tryd.und8 Tryd.info8 (by decide) w6.heap.size _ ((0 :: 1 :: List.replicate j 255) ++ [0]) rfl H7.out.1 _ (namB alg X) rfl (by have h := src_sl Tryd.und8 (below_sl H7.out.2 H6.out.1); rw [← H6.out.2.2] at h; rw [← H6.out.2.2]; exact h) (by rw [H6.out.2.2]; simp; omega) H7.out.2.size ?_; intro v8 w8 hr8 hg8; have H8 : Hid (Row .u8 5 w6.heap.size w8 v8 (padB alg X N) ∧ Below w.heap.size w w8) := ⟨by rw [← HP.out]; exact hr8, below_via H6.out.2.1 (H7.out.2.trans (hg8.below H7.out.1 H7.out.2.size)) (Nat.le_refl _)⟩; clear hr8 hg8))
        go_ret2
        exact Or.inr ⟨by rw [H6.out.2.2]; omega, v8, rfl, H8.out.1.sl, H8.out.2⟩
end Go.Proofs.YtkjjfjekpdjboaaDoor
/-
  Rsa: the law RsaPads.
-/
namespace Go.Proofs.YtkjjfjekpdjboaaDoor
open Go.RowKit
set_option maxRecDepth 20000
/-- What Pad tells: the error, the bytes. -/
def padE (alg : Int) (X : List Int) (n : Int) : Int := if isD alg X.length = false ∨ 2048 < n then 1 else if n < (namB alg X).length + 11 then 2 else 0
def padV (alg : Int) (X : List Int) (n : Int) : List Int := if padE alg X n = 0 then padB alg X n.toNat else []
theorem padV_len (alg : Int) (X : List Int) (n : Int) : (padV alg X n).length ≤ 2048 := by
  unfold padV
  split
  · rename_i h
    unfold padE at h
    split at h
    · cases h
    · split at h
      · cases h
      · rw [padB_len (by omega)]; omega
  · simp
theorem PadC {w : World} (alg : Int) (a : Option Addr) (len cap : Nat) (X : List Int) (hX : Sl .u8 w (.slice a len cap) X) (uX : U8s X) (hl : X.length = len) (n : Int) :
    Calls Tryd.prog 17 #[.int .i64 alg, .slice a len cap, .int .i64 n] w fun e w' => ∃ v, e = .returned (.tuple #[v, .int .i64 (padE alg X n)]) ∧ Sl .u8 w' v (padV alg X n) ∧ Below w.heap.size w w' := by
  by_cases h1 : isD alg X.length = false ∨ 2048 < n
  · have e1 : padE alg X n = 1 := by unfold padE; rw [if_pos h1]
    have e2 : padV alg X n = [] := by unfold padV; rw [e1]; rfl
    rw [e1, e2]
    refine (Pad_arg alg a len cap n (by rw [← hl]; exact h1)).mono ?_
    rintro e w' ⟨rfl, rfl⟩
    exact ⟨_, rfl, nil_sl _, Below.refl _ _⟩
  · have hD : isD alg len = true := by rw [← hl]; simpa using fun h => h1 (.inl h)
    have hn : n ≤ 2048 := by omega
    by_cases h2 : n < (namB alg X).length + 11
    · have e1 : padE alg X n = 2 := by unfold padE; rw [if_neg h1, if_pos h2]
      have e2 : padV alg X n = [] := by unfold padV; rw [e1]; rfl
      rw [e1, e2]
      refine (Pad_short alg a len cap X hX uX hl hD n hn h2).mono ?_
      rintro e w' ⟨rfl, hb⟩
      exact ⟨_, rfl, nil_sl _, hb⟩
    · have e1 : padE alg X n = 0 := by unfold padE; rw [if_neg h1, if_neg h2]
      have e2 : padV alg X n = padB alg X n.toNat := by unfold padV; rw [e1]; rfl
      rw [e1, e2]
      obtain ⟨N, rfl⟩ : ∃ N : Nat, n = N := ⟨n.toNat, by omega⟩
      refine (Pad_any alg a len cap X hX uX hl hD N (by omega) (by omega)).mono ?_
      rintro e w' ⟨M, rfl, _, hs, hb⟩
      exact ⟨_, rfl, hs, hb⟩
theorem RPadC {w : World} (alg : Int) (a : Option Addr) (len cap : Nat) (X : List Int) (hX : Sl .u8 w (.slice a len cap) X) (uX : U8s X) (hl : X.length = len) (n : Int) :
    Calls Tryd.prog 18 #[.int .i64 alg, .slice a len cap, .int .i64 n] w fun e w' => ∃ v, e = .returned (.tuple #[v, .int .i64 (padE alg X n)]) ∧ Sl .u8 w' v (padV alg X n) ∧ Below w.heap.size w w' := by
  by_cases h1 : isD alg X.length = false ∨ 2048 < n
  · have e1 : padE alg X n = 1 := by unfold padE; rw [if_pos h1]
    have e2 : padV alg X n = [] := by unfold padV; rw [e1]; rfl
    rw [e1, e2]
    refine (RPad_arg alg a len cap n (by rw [← hl]; exact h1)).mono ?_
    rintro e w' ⟨rfl, rfl⟩
    exact ⟨_, rfl, nil_sl _, Below.refl _ _⟩
  · have hD : isD alg len = true := by rw [← hl]; simpa using fun h => h1 (.inl h)
    refine (RPad_any alg a len cap X hX uX hl hD n (by omega)).mono ?_
    rintro e w' (⟨h2, rfl, hb⟩ | ⟨h2, r, rfl, hs, hb⟩)
    · have e1 : padE alg X n = 2 := by unfold padE; rw [if_neg h1, if_pos h2]
      have e2 : padV alg X n = [] := by unfold padV; rw [e1]; rfl
      rw [e1, e2]
      exact ⟨_, rfl, nil_sl _, hb⟩
    · have e1 : padE alg X n = 0 := by unfold padE; rw [if_neg h1, if_neg (by omega)]
      have e2 : padV alg X n = padB alg X n.toNat := by unfold padV; rw [e1]; rfl
      rw [e1, e2]
      exact ⟨_, rfl, hs, hb⟩
set_option maxHeartbeats 2000000 in
theorem RsaPads_any {w : World} (alg : Int) (a : Option Addr) (len cap : Nat) (X : List Int) (hX : Sl .u8 w (.slice a len cap) X) (uX : U8s X) (hl : X.length = len) (n : Int) (hT : Sh.Tabs w) :
    Calls Tryd.prog 5 #[.int .i64 alg, .slice a len cap, .int .i64 n] w fun e w' => e = .returned (.bool true) ∧ Below w.heap.size w w' := by
  by_cases h1 : ¬ len ≤ 8192
  · have h1I : (8192 : Int) < (len : Int) := by omega
    have HT : Hid (Sh.Tabs w) := hT
    clear hX uX hl hT
    go_enter Tryd.func5, Tryd.ntmps5
    go_wp2_with (go_at_call 6; refine (live8_any HT.out).mono ?_; rintro e w2 ⟨rfl, hb⟩)
    go_ret
    exact ⟨rfl, hb⟩
  have h1 := Decidable.not_not.1 h1
  have h1I : (len : Int) ≤ 8192 := by omega
  have HX : Hid (Sl .u8 w (.slice a len cap) X ∧ U8s X ∧ X.length = len ∧ Sh.Tabs w) := ⟨hX, uX, hl, hT⟩
  clear hX uX hl hT
  go_enter Tryd.func5, Tryd.ntmps5
  go_wp2_with fail
  refine (Lent8_n X _ w len HX.out.2.2.1 HX.out.1 (by omega)).mono ?_
  rintro e w1 ⟨b1, S1, c1, rfl, hl1, _, _, _, hb1⟩
  have H1 : Hid (LentR8 w.heap.size w1 (.slice (some ⟨b1, 0, none⟩) len c1) X ∧ Below w.heap.size w w1) := ⟨hl1, hb1⟩
  clear hl1 hb1
  go_wp2_with fail
  refine (PadC alg _ len c1 X H1.out.1.sl HX.out.2.1 HX.out.2.2.1 n).mono ?_
  rintro e w2 ⟨v2, rfl, hs2, hb2⟩
  have H2 : Hid (LentR8 w.heap.size w2 (.slice (some ⟨b1, 0, none⟩) len c1) X ∧ Sl .u8 w2 v2 (padV alg X n) ∧ Below w.heap.size w w2) := ⟨H1.out.1.below hb2, hs2, below_via H1.out.2 hb2 (Nat.le_refl _)⟩
  obtain ⟨a2, c2, hf2⟩ := hs2.form
  subst hf2
  clear hs2 hb2
  obtain ⟨E, hE⟩ : ∃ E, padE alg X n = E := ⟨_, rfl⟩
  have HE : Hid (padE alg X n = E) := hE
  simp only [hE]
  clear hE
  go_wp2_with fail
  refine (RPadC alg a len cap X (below_sl H2.out.2.2 HX.out.1) HX.out.2.1 HX.out.2.2.1 n).mono ?_
  rintro e w3 ⟨v3, rfl, hs3, hb3⟩
  have H3 : Hid (LentR8 w.heap.size w3 (.slice (some ⟨b1, 0, none⟩) len c1) X ∧ Sl .u8 w3 (.slice a2 (padV alg X n).length c2) (padV alg X n) ∧ Sl .u8 w3 v3 (padV alg X n) ∧ Below w.heap.size w w3) := ⟨H2.out.1.below hb3, below_sl hb3 H2.out.2.1, hs3, below_via H2.out.2.2 hb3 (Nat.le_refl _)⟩
  obtain ⟨a3, c3, hf3⟩ := hs3.form
  subst hf3
  clear hs3 hb3
  simp only [HE.out]
  go_wp2_with (first
    | (go_at_call 7; refine (num8_any _ _).mono ?_; rintro e w' ⟨rfl, rfl⟩)
    | (go_at_call 15; refine (SameBytes_any _ _ (padV alg X n) H3.out.2.1 H3.out.2.2.1 (by have := padV_len alg X n; omega)).mono ?_; rintro e w4 ⟨rfl, hb4⟩; have H4 : Hid (LentR8 w.heap.size w4 (.slice (some ⟨b1, 0, none⟩) len c1) X ∧ Below w.heap.size w w4) := ⟨H3.out.1.below hb4, below_via H3.out.2.2.2 hb4 (Nat.le_refl _)⟩; clear hb4)
    | (go_at_call 16; refine (Kept8_any _ _ X H4.out.1 (below_sl H4.out.2 HX.out.1) (by have := HX.out.2.2.1; omega)).mono ?_; rintro e w5 ⟨rfl, hb5⟩; have H5 : Hid (Below w.heap.size w w5) := below_via H4.out.2 hb5 (Nat.le_refl _); clear hb5)
    | (go_at_call 6; refine (live8_any (HX.out.2.2.2.below H5.out)).mono ?_; rintro e w6 ⟨rfl, hb6⟩; have H6 : Hid (Below w.heap.size w w6) := below_via H5.out hb6 (Nat.le_refl _); clear hb6))
  go_ret
  exact ⟨rfl, H6.out⟩
end Go.Proofs.YtkjjfjekpdjboaaDoor
/-
  Rsa: what the tied list of tables gives; a world for the witness; how an argument reads.
-/
namespace Go.Proofs.YtkjjfjekpdjboaaDoor
open Go.ChangeShapes Go.WideShapes Go.ChangeAt Go.RowKit
/-! ### how an argument reads -/
def IsRow (k : IntKind) (w : World) (a : Option Addr) (len cap : Nat) (zs : List Int) : Prop :=
  (a = none ∧ len = 0 ∧ cap = 0 ∧ zs = []) ∨
  ∃ x, a = some x ∧ len ≤ cap ∧ cap ≤ maxLen ∧ zs.length = cap ∧ (∀ i, i < zs.length → w.cell? (x.add i) = some (.int k (zs.getD i 0))) ∧ ∀ n ∈ zs, (Lit.int k n).wf = true
theorem cell_spot {w : World} {x : Addr} {v : Value} (h : w.cell? x = some v) : x.spot = none ∧ x.block < w.heap.size := by
  unfold World.cell? at h
  split at h
  · rename_i c t f hh
    refine ⟨?_, (Array.getElem?_eq_some_iff.1 hh).1⟩
    by_cases hs : x.spot.isSome
    · simp [hs] at h
    · simpa using hs
  · cases h
theorem IsRow.sl {k : IntKind} {w : World} {a : Option Addr} {len cap : Nat} {zs : List Int} (h : IsRow k w a len cap zs) :
    ∃ X, X.length = len ∧ Sl k w (.slice a len cap) X ∧ ∀ n ∈ X, (Lit.int k n).wf = true := by
  rcases h with ⟨rfl, rfl, rfl, rfl⟩ | ⟨x, rfl, hl, hm, hz, hc, hw⟩
  · exact ⟨[], rfl, ⟨none, 0, rfl, Nat.le_refl _, .inl rfl⟩, by simp⟩
  · refine ⟨zs.take len, by simp; omega, ⟨some x, cap, by simp; omega, by simp; omega, ?_⟩, fun n hn => hw n (List.mem_of_mem_take hn)⟩
    by_cases h0 : len = 0
    · subst h0; exact .inl (by simp)
    · right
      obtain ⟨b, off, sp⟩ := x
      have h1 := cell_spot (hc 0 (by omega))
      have hsp : sp = none := by
        have := h1.1
        cases sp with
        | none => rfl
        | some s => simp [Addr.add] at this
      subst hsp
      have hb : b < w.heap.size := by have := h1.2; simpa [Addr.add] using this
      refine ⟨b, off, rfl, hb, fun i hi => ?_⟩
      simp at hi
      have := hc i (by omega)
      have hadd : (⟨b, off, none⟩ : Addr).add i = ⟨b, off + i, none⟩ := by simp [Addr.add]
      rw [hadd] at this
      rw [this]
      simp [show i < len by omega]
theorem IsRow.sl8 {w : World} {a : Option Addr} {len cap : Nat} {zs : List Int} (h : IsRow .u8 w a len cap zs) : ∃ X, X.length = len ∧ Sl .u8 w (.slice a len cap) X ∧ U8s X := by
  obtain ⟨X, h1, h2, h3⟩ := h.sl
  exact ⟨X, h1, h2, fun n hn => by have := bounds_u8 (h3 n hn); exact ⟨this.1, by omega⟩⟩
theorem Tryd.g_first1 : Tryd.prog.globalNamed "chirograph/sha.first1" = some 0 := by kernel_rfl
theorem Tryd.gt_first1 : (Tryd.prog.globals[0]?).map (·.type) = some 60 := by kernel_rfl
theorem Tryd.gc_first1 : Tryd.prog.cellsOf 60 = 8 := by kernel_rfl
theorem Tryd.lf_first1 : Rows.rsaChecksRow.laid.filter (fun x => x.1 == "chirograph/sha.first1") = [("chirograph/sha.first1", Lib.tabData .u32 Sh.first1L)] := by kernel_rfl
theorem Tryd.g_first256 : Tryd.prog.globalNamed "chirograph/sha.first256" = some 1 := by kernel_rfl
theorem Tryd.gt_first256 : (Tryd.prog.globals[1]?).map (·.type) = some 60 := by kernel_rfl
theorem Tryd.gc_first256 : Tryd.prog.cellsOf 60 = 8 := by kernel_rfl
theorem Tryd.lf_first256 : Rows.rsaChecksRow.laid.filter (fun x => x.1 == "chirograph/sha.first256") = [("chirograph/sha.first256", Lib.tabData .u32 Sh.first256L)] := by kernel_rfl
theorem Tryd.g_first384 : Tryd.prog.globalNamed "chirograph/sha.first384" = some 2 := by kernel_rfl
theorem Tryd.gt_first384 : (Tryd.prog.globals[2]?).map (·.type) = some 61 := by kernel_rfl
theorem Tryd.gc_first384 : Tryd.prog.cellsOf 61 = 8 := by kernel_rfl
theorem Tryd.lf_first384 : Rows.rsaChecksRow.laid.filter (fun x => x.1 == "chirograph/sha.first384") = [("chirograph/sha.first384", Lib.tabData .u64 Sh.first384L)] := by kernel_rfl
theorem Tryd.g_first512 : Tryd.prog.globalNamed "chirograph/sha.first512" = some 3 := by kernel_rfl
theorem Tryd.gt_first512 : (Tryd.prog.globals[3]?).map (·.type) = some 61 := by kernel_rfl
theorem Tryd.gc_first512 : Tryd.prog.cellsOf 61 = 8 := by kernel_rfl
theorem Tryd.lf_first512 : Rows.rsaChecksRow.laid.filter (fun x => x.1 == "chirograph/sha.first512") = [("chirograph/sha.first512", Lib.tabData .u64 Sh.first512L)] := by kernel_rfl
theorem Tryd.g_adds1 : Tryd.prog.globalNamed "chirograph/sha.adds1" = some 5 := by kernel_rfl
theorem Tryd.gt_adds1 : (Tryd.prog.globals[5]?).map (·.type) = some 109 := by kernel_rfl
theorem Tryd.gc_adds1 : Tryd.prog.cellsOf 109 = 4 := by kernel_rfl
theorem Tryd.lf_adds1 : Rows.rsaChecksRow.laid.filter (fun x => x.1 == "chirograph/sha.adds1") = [("chirograph/sha.adds1", Lib.tabData .u32 Sh.adds1L)] := by kernel_rfl
theorem Tryd.g_adds256 : Tryd.prog.globalNamed "chirograph/sha.adds256" = some 6 := by kernel_rfl
theorem Tryd.gt_adds256 : (Tryd.prog.globals[6]?).map (·.type) = some 83 := by kernel_rfl
theorem Tryd.gc_adds256 : Tryd.prog.cellsOf 83 = 64 := by kernel_rfl
theorem Tryd.lf_adds256 : Rows.rsaChecksRow.laid.filter (fun x => x.1 == "chirograph/sha.adds256") = [("chirograph/sha.adds256", Lib.tabData .u32 Sh.adds256L)] := by kernel_rfl
theorem Tryd.g_adds512 : Tryd.prog.globalNamed "chirograph/sha.adds512" = some 7 := by kernel_rfl
theorem Tryd.gt_adds512 : (Tryd.prog.globals[7]?).map (·.type) = some 85 := by kernel_rfl
theorem Tryd.gc_adds512 : Tryd.prog.cellsOf 85 = 80 := by kernel_rfl
theorem Tryd.lf_adds512 : Rows.rsaChecksRow.laid.filter (fun x => x.1 == "chirograph/sha.adds512") = [("chirograph/sha.adds512", Lib.tabData .u64 Sh.adds512L)] := by kernel_rfl
theorem Tryd.c32 : Tryd.prog.cellsOf 41 = 1 := by kernel_rfl
theorem Tryd.c64 : Tryd.prog.cellsOf 57 = 1 := by kernel_rfl
theorem Tryd.u32 : Tryd.prog.underlying 41 = some (.int .u32) := by kernel_rfl
theorem Tryd.u64 : Tryd.prog.underlying 57 = some (.int .u64) := by kernel_rfl
theorem rd_tab {W : World} {name : String} {k : IntKind} {zs : List Int} {g : Nat} (h : Lib.TabIs Tryd.prog W name k zs) (hg : Tryd.prog.globalNamed name = some g) : Rd k W g 0 zs := fun i hi => by
  rw [Nat.zero_add]; exact h.cell hg i hi
theorem laid_one {W : World} {n : String} {d : DataW Unit} (hd : d.handleName?.isNone = true) (h : laidMetH Tryd.prog [(n, d)] W) : laidMet Tryd.prog [(n, d)] W := by
  have e : ([(n, d)] : List (String × DataW Unit)).filter (fun x => x.2.handleName?.isSome) = [] := by
    have h0 : d.handleName?.isSome = false := by cases hx : d.handleName? <;> simp_all
    simp [h0]
  unfold laidMetH at h
  rw [e] at h
  exact h
theorem tabs_of_laid {W : World} (h : laidMetH Tryd.prog Rows.rsaChecksRow.laid W) : Sh.Tabs W := by
  have h_f1 : Rd .u32 W 0 0 Sh.first1L := by
    have h1 := laidMetH.filter (fun x => x.1 == "chirograph/sha.first1") h
    rw [Tryd.lf_first1] at h1
    exact rd_tab (Lib.tabIs_of_head (rest := []) Tryd.g_first1 Tryd.gt_first1 Tryd.underlying60 Tryd.u32 Tryd.c32 Tryd.gc_first1 (laid_one rfl h1)) Tryd.g_first1
  have h_f256 : Rd .u32 W 1 0 Sh.first256L := by
    have h1 := laidMetH.filter (fun x => x.1 == "chirograph/sha.first256") h
    rw [Tryd.lf_first256] at h1
    exact rd_tab (Lib.tabIs_of_head (rest := []) Tryd.g_first256 Tryd.gt_first256 Tryd.underlying60 Tryd.u32 Tryd.c32 Tryd.gc_first256 (laid_one rfl h1)) Tryd.g_first256
  have h_f384 : Rd .u64 W 2 0 Sh.first384L := by
    have h1 := laidMetH.filter (fun x => x.1 == "chirograph/sha.first384") h
    rw [Tryd.lf_first384] at h1
    exact rd_tab (Lib.tabIs_of_head (rest := []) Tryd.g_first384 Tryd.gt_first384 Tryd.underlying61 Tryd.u64 Tryd.c64 Tryd.gc_first384 (laid_one rfl h1)) Tryd.g_first384
  have h_f512 : Rd .u64 W 3 0 Sh.first512L := by
    have h1 := laidMetH.filter (fun x => x.1 == "chirograph/sha.first512") h
    rw [Tryd.lf_first512] at h1
    exact rd_tab (Lib.tabIs_of_head (rest := []) Tryd.g_first512 Tryd.gt_first512 Tryd.underlying61 Tryd.u64 Tryd.c64 Tryd.gc_first512 (laid_one rfl h1)) Tryd.g_first512
  have h_a1 : Rd .u32 W 5 0 Sh.adds1L := by
    have h1 := laidMetH.filter (fun x => x.1 == "chirograph/sha.adds1") h
    rw [Tryd.lf_adds1] at h1
    exact rd_tab (Lib.tabIs_of_head (rest := []) Tryd.g_adds1 Tryd.gt_adds1 Tryd.underlying109 Tryd.u32 Tryd.c32 Tryd.gc_adds1 (laid_one rfl h1)) Tryd.g_adds1
  have h_a256 : Rd .u32 W 6 0 Sh.adds256L := by
    have h1 := laidMetH.filter (fun x => x.1 == "chirograph/sha.adds256") h
    rw [Tryd.lf_adds256] at h1
    exact rd_tab (Lib.tabIs_of_head (rest := []) Tryd.g_adds256 Tryd.gt_adds256 Tryd.underlying83 Tryd.u32 Tryd.c32 Tryd.gc_adds256 (laid_one rfl h1)) Tryd.g_adds256
  have h_a512 : Rd .u64 W 7 0 Sh.adds512L := by
    have h1 := laidMetH.filter (fun x => x.1 == "chirograph/sha.adds512") h
    rw [Tryd.lf_adds512] at h1
    exact rd_tab (Lib.tabIs_of_head (rest := []) Tryd.g_adds512 Tryd.gt_adds512 Tryd.underlying85 Tryd.u64 Tryd.c64 Tryd.gc_adds512 (laid_one rfl h1)) Tryd.g_adds512
  refine ⟨?_, h_f1, h_f256, h_f384, h_f512, h_a1, h_a256, h_a512⟩
  have := (cell_spot (h_a512 0 (by decide))).2
  simp at this
  omega
/-- A world for the witness: the settled one, the tables holding what their initialisers lay. -/
noncomputable def laidWorld (os : Os) : World :=
  { World.holding Tryd.prog os ⟨#[], #[], []⟩ with heap := ((((((((World.holding Tryd.prog os ⟨#[], #[], []⟩).heap.modify 0 fun | .cells _ t frozen => .cells (Sh.first1L.map (Value.int .u32)).toArray t frozen | o => o).modify 1 fun | .cells _ t frozen => .cells (Sh.first256L.map (Value.int .u32)).toArray t frozen | o => o).modify 2 fun | .cells _ t frozen => .cells (Sh.first384L.map (Value.int .u64)).toArray t frozen | o => o).modify 3 fun | .cells _ t frozen => .cells (Sh.first512L.map (Value.int .u64)).toArray t frozen | o => o).modify 5 fun | .cells _ t frozen => .cells (Sh.adds1L.map (Value.int .u32)).toArray t frozen | o => o).modify 6 fun | .cells _ t frozen => .cells (Sh.adds256L.map (Value.int .u32)).toArray t frozen | o => o).modify 7 fun | .cells _ t frozen => .cells (Sh.adds512L.map (Value.int .u64)).toArray t frozen | o => o) }
end Go.Proofs.YtkjjfjekpdjboaaDoor
