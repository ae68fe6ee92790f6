/-
  Digest: the law DigestSums, walked.
-/
import Derived.Test.YtgipmjpkaemdkaaDoorG44
namespace Go.Proofs.YtgipmjpkaemdkaaDoor
open Go.RowKit
/-- What a sum of the lists answers: bytes that read D, and the error z. -/
def SumC (F : Nat) (alg : Int) (v : Value) (D : List Int) (z : Int) (w : World) : Prop :=
  Calls Tryd.prog F #[.int .i64 alg, v] w fun e w' => ∃ r, e = .returned (.tuple #[r, .int .i64 z]) ∧ Sl .u8 w' r D ∧ Below w.heap.size w w'
theorem LentR8.ex {B : Nat} {w : World} {v : Value} {X : List Int} (h : LentR8 B w v X) : ∃ b c, v = .slice (some ⟨b, 0, none⟩) X.length c := by
  obtain ⟨b, S, rfl, _⟩ := h; exact ⟨_, _, rfl⟩
theorem muchB_n {ms : List (List Int)} {most : Nat} (h : muchB ms most = false) : ms.length ≤ 1000 := by
  unfold muchB at h
  simp at h
  omega
set_option maxRecDepth 20000 in
set_option maxHeartbeats 4000000 in
theorem DigestSums_main {w : World} (alg : Int) (D : List Int) (z : Int) (hD : D.length ≤ 1152921504606846976) (a : Option Addr) (n c : Nat) (vs : List Value) (ms : List (List Int)) (hL : Lists w a n c vs ms) (hmu : muchB ms 65536 = false) (hT : Tabs w)
    (hS : ∀ (w' : World) (v : Value) (us : List Value), Below w.heap.size w w' → SlS w' v us → Msgs w' us ms → SumC 12 alg v D z w')
    (hR : ∀ w' : World, Below w.heap.size w w' → SumC 13 alg (.slice a n c) D z w') :
    Calls Tryd.prog 3 #[.int .i64 alg, .slice a n c] w fun e w' => e = .returned (.bool true) ∧ Below w.heap.size w w' := by
  have hms := much_sum hmu
  have hn1 := muchB_n hmu
  rw [hL.len] at hn1
  have HX : Hid (Lists w a n c vs ms ∧ Tabs w ∧ ms.flatten.length ≤ 65536 ∧ ms.length = n ∧ D.length ≤ 1152921504606846976) := ⟨hL, hT, hms, hL.len, hD⟩
  have HS : Hid (∀ (w' : World) (v : Value) (us : List Value), Below w.heap.size w w' → SlS w' v us → Msgs w' us ms → SumC 12 alg v D z w') := hS
  have HR : Hid (∀ w' : World, Below w.heap.size w w' → SumC 13 alg (.slice a n c) D z w') := hR
  have HMu : Hid (∀ w', w = w' → Calls Tryd.prog 9 #[.slice a n c, .int .i64 65536] w' fun e w'' => e = .returned (.bool false) ∧ w' = w'') := fun w' hw => by
    subst hw
    have := much_any a n c 65536 vs ms hL (by omega) (by omega) (fun i hi => by
      have h1 := flatten_take_le ms (i + 1)
      rw [flatten_take (by rw [hL.len]; exact hi), List.length_append] at h1
      omega)
    rw [hmu] at this
    exact this
  have HSz : Hid (∀ w' : World, Calls Tryd.prog 18 #[.int .i64 alg] w' fun e w'' => e = .returned (.int .i64 (siz alg)) ∧ w' = w'') := fun w' => RSize_any alg
  have HBk : Hid (∀ w' : World, Calls Tryd.prog 20 #[.int .i64 alg] w' fun e w'' => e = .returned (.int .i64 (blk alg)) ∧ w' = w'') := fun w' => RBlock_any alg
  clear hL hmu hT hms hD hS hR
  go_enter Tryd.func3, Tryd.ntmps3
  go_wp2_with (first
    | (go_at_call 9; refine (HMu.out _ rfl).mono ?_; rintro e w' ⟨rfl, rfl⟩))
  go_loopw [5, 6] (fun mv iv wr => ∃ (i : Nat) (us : List Value), iv = .int .i64 i ∧ i ≤ n ∧ us.length = i ∧ VRow 25 w.heap.size wr mv us ∧ (∀ j, j < i → LentR8 w.heap.size wr (us.getD j undef) (ms.getD j [])) ∧ Below w.heap.size w wr) (fun _ iv _ => n - (intOf iv).toNat)
  case atStart => exact ⟨0, [], rfl, by omega, rfl, VRow.nil _ _ _, fun j hj => by omega, Below.refl _ _⟩
  case round =>
    obtain ⟨i, us, rfl, hi, hus, hV, hLn, hB⟩ := hrel
    by_cases hlt : i < n
    · obtain ⟨b, off, ai, ni, ci, rfl, hbl, _, hcell, hX, uX, lX⟩ := HX.out.1.at i hlt
      obtain ⟨X, hXe⟩ : ∃ X, ms.getD i [] = X := ⟨_, rfl⟩
      have hle := flatten_take_le ms (i + 1)
      rw [flatten_take (by rw [HX.out.2.2.2.1]; exact hlt), List.length_append] at hle
      rw [hXe] at hX uX lX hle
      have hni : ni ≤ 65536 := by have := HX.out.2.2.1; omega
      have HM : Hid (X.length = ni ∧ Sl .u8 w (.slice ai ni ci) X ∧ ms.getD i [] = X) := ⟨lX, hX, hXe⟩
      have H1 : Hid (us.length = i ∧ VRow 25 w.heap.size wr u5 us ∧ (∀ j, j < i → LentR8 w.heap.size wr (us.getD j undef) (ms.getD j [])) ∧ Below w.heap.size w wr) := ⟨hus, hV, hLn, hB⟩
      have hc0 : wr.cell? ⟨b, off + i, none⟩ = some (.slice ai ni ci) := by rw [hB.cell (p := ⟨b, off + i, none⟩) hbl, hcell]
      clear hX uX lX hXe hle hcell hbl hV hLn hB hus
      have hiI : (i : Int) < (n : Int) := by omega
      go_wp2_with fail
      refine (Lent8_n X _ wr ni HM.out.1 (below_sl H1.out.2.2.2 HM.out.2.1) (by omega)).mono ?_
      rintro e w2 ⟨b2, S2, c2, rfl, hl2, hb2, hA2, hn2, hB2⟩
      have H2 : Hid (LentR8 w.heap.size w2 (.slice (some ⟨b2, 0, none⟩) ni c2) X ∧ Below wr.heap.size wr w2 ∧ w.heap.size ≤ w2.heap.size) := ⟨hl2.mono H1.out.2.2.2.size, hB2, Nat.le_trans H1.out.2.2.2.size hB2.size⟩
      clear hl2 hb2 hA2 hn2 hB2 hc0
      go_wp2_with (at_builtin; refine wpList_apv rfl (.tmp 21) (.tmp 27) 22 22 rfl (.slice none 0 0) rfl 25 24 Tryd.undS Tryd.infoS (by decide) w.heap.size _ us rfl ((H1.out.2.1.below H2.out.2.1).alloc _) _ [.slice (some ⟨b2, 0, none⟩) ni c2] rfl (src_v (T := 25) (vs := [.slice (some ⟨b2, 0, none⟩) ni c2]) Tryd.undS (blk_nw rfl rfl) (by intro u hu; simp only [List.mem_singleton] at hu; subst hu; rfl)) (by have := H1.out.1; simp only [List.length_cons, List.length_nil]; omega) (by have := H2.out.2.2; simp; omega) ?_; intro v3 w3 hr hg)
      have H3 : Hid (VRow 25 w.heap.size w3 v3 (us ++ [.slice (some ⟨b2, 0, none⟩) ni c2]) ∧ (∀ j, j < i + 1 → LentR8 w.heap.size w3 ((us ++ [Value.slice (some ⟨b2, 0, none⟩) ni c2]).getD j undef) (ms.getD j [])) ∧ Below w.heap.size w w3 ∧ (us ++ [Value.slice (some ⟨b2, 0, none⟩) ni c2]).length = i + 1) := by
        refine ⟨hr, fun j hj => ?_, ?_, by rw [List.length_append, H1.out.1]; rfl⟩
        · by_cases hji : j < i
          · rw [getD_snoc_lt (by rw [H1.out.1]; exact hji)]
            exact (((H1.out.2.2.1 j hji).below H2.out.2.1).below (al1 _)).grew hg
          · obtain rfl : j = i := by omega
            rw [getD_snoc_eq H1.out.1, HM.out.2.2]
            exact (H2.out.1.below (al1 _)).grew hg
        · have h1 : Below w.heap.size w w2 := below_via H1.out.2.2.2 H2.out.2.1 (Nat.le_refl _)
          exact (below_via h1 (al1 _) (Nat.le_refl _)).trans (hg.below ((H1.out.2.1.below H2.out.2.1).alloc _) (by have := H2.out.2.2; simp; omega))
      clear hr hg
      go_roundw
      case rel => exact ⟨i + 1, _, by go_num, by omega, H3.out.2.2.2, H3.out.1, H3.out.2.1, H3.out.2.2.1⟩
      case measure => simp [intOf]; omega
    · obtain rfl : i = n := by omega
      obtain ⟨am, cm, rfl, hcm, hx⟩ := hV.sls
      have hmg : Msgs wr us ms := ⟨by rw [hus]; exact HX.out.2.2.2.1.symm, fun j hj => ⟨(hLn j (by omega)).sl, (HX.out.1.msgs.2 j (by rw [HX.out.1.msgs.1, HX.out.2.2.2.1]; omega)).2⟩⟩
      rw [hus] at hcm
      have H1 : Hid (us.length = i ∧ SlS wr (.slice am i cm) us ∧ (∀ j, j < i → LentR8 w.heap.size wr (us.getD j undef) (ms.getD j [])) ∧ Below w.heap.size w wr ∧ Msgs wr us ms ∧ (us = [] ∨ ∃ b off, am = some ⟨b, off, none⟩ ∧ b < wr.heap.size ∧ ∀ j, j < i → wr.cell? ⟨b, off + j, none⟩ = some (us.getD j undef))) := ⟨hus, by have := hV.sls; rw [hus] at this; exact this, hLn, hB, hmg, by rw [hus] at hx; exact hx⟩
      simp only [hus]
      clear hV hLn hB hus hx hmg
      go_wp2_with fail
      refine (HS.out wr _ us H1.out.2.2.2.1 H1.out.2.1 H1.out.2.2.2.2.1).mono ?_
      rintro e w2 ⟨r1, rfl, hs1, hb1⟩
      have H2 : Hid (Sl .u8 w2 r1 D ∧ Below wr.heap.size wr w2) := ⟨hs1, hb1⟩
      clear hs1 hb1
      go_wp2_with fail
      refine (HR.out w2 (below_via H1.out.2.2.2.1 H2.out.2 (Nat.le_refl _))).mono ?_
      rintro e w3 ⟨r2, rfl, hs2, hb2⟩
      have H3 : Hid (Sl .u8 w3 r1 D ∧ Sl .u8 w3 r2 D ∧ Below wr.heap.size wr w3) := ⟨below_sl hb2 H2.out.1, hs2, below_via H2.out.2 hb2 (Nat.le_refl _)⟩
      clear hs2 hb2
      go_wp2_with fail
      go_loopw [11] (fun iv wq => ∃ k : Nat, iv = .int .i64 k ∧ k ≤ i ∧ Below w3.heap.size w3 wq) (fun iv _ => i - (intOf iv).toNat)
      case atStart => exact ⟨0, rfl, by omega, Below.refl _ _⟩
      case round =>
        obtain ⟨k, rfl, hk, hBq⟩ := hrel
        rename World => w4
        by_cases hki : k < i
        · obtain ⟨b, off, ai, ni, ci, rfl, hbl, _, hcell, hX, uX, lX⟩ := HX.out.1.at k hki
          obtain ⟨bm, om, rfl, hbm, hcm2⟩ : ∃ b off, am = some ⟨b, off, none⟩ ∧ b < wr.heap.size ∧ ∀ j, j < i → wr.cell? ⟨b, off + j, none⟩ = some (us.getD j undef) := by
            rcases H1.out.2.2.2.2.2 with h | h
            · have := H1.out.1; rw [h] at this; simp at this; omega
            · exact h
          have hw4 : Below wr.heap.size wr w4 := below_via H3.out.2.2 hBq (Nat.le_refl _)
          have hw04 : Below w.heap.size w w4 := below_via H1.out.2.2.2.1 hw4 (Nat.le_refl _)
          have hcl := hcm2 k hki
          have hLk := (H1.out.2.2.1 k hki).below hw4
          obtain ⟨X, hXe⟩ : ∃ X, ms.getD k [] = X := ⟨_, rfl⟩
          rw [hXe] at hX lX hLk
          have hle := flatten_take_le ms (k + 1)
          rw [flatten_take (by rw [HX.out.2.2.2.1]; exact hki), List.length_append, hXe] at hle
          obtain ⟨bk, ck, hbk⟩ := hLk.ex
          rw [hbk] at hLk hcl
          rw [lX] at hLk hcl
          have c1 : w4.cell? ⟨bm, om + k, none⟩ = some (.slice (some ⟨bk, 0, none⟩) ni ck) := by rw [hw4.cell (p := ⟨bm, om + k, none⟩) hbm, hcl]
          have c2 : w4.cell? ⟨b, off + k, none⟩ = some (.slice ai ni ci) := by rw [hw04.cell (p := ⟨b, off + k, none⟩) hbl, hcell]
          have H4 : Hid (LentR8 w.heap.size w4 (.slice (some ⟨bk, 0, none⟩) ni ck) X ∧ Sl .u8 w4 (.slice ai ni ci) X ∧ X.length ≤ 65536 ∧ Below w3.heap.size w3 w4) := ⟨hLk, below_sl hw04 hX, by have := HX.out.2.2.1; omega, hBq⟩
          have hkI : (k : Int) < (i : Int) := by omega
          clear hbl hcell hX uX lX hbm hcm2 hw4 hw04 hcl hLk hXe hle hbk hBq
          go_upto_region 13 with (fail)
          refine wp_region_qsd 8 (by kernel_rfl) (by kernel_rfl) ?_
          simp only [List.take_succ_cons, List.take_zero, List.drop_succ_cons, List.drop_zero]
          repeat (go_big_quiet_step (fail))
          refine wpQuiet_nil ?_
          rintro _ ⟨q2, rfl⟩
          go_wp2_with fail
          refine (Kept8_any (B := w.heap.size) (w := w4.drewN q2) _ _ X H4.out.1 H4.out.2.1 (by have := H4.out.2.2.1; omega)).mono ?_
          rintro e w5 ⟨rfl, hb5⟩
          have H5 : Hid (Below w3.heap.size w3 w5) := below_via (below_drewN q2 H4.out.2.2.2) hb5 (Nat.le_refl _)
          clear hb5
          go_wp2
          go_roundw
          case rel => exact ⟨k + 1, by go_num, by omega, H5.out⟩
          case measure => simp [intOf]; omega
        · obtain rfl : k = i := by omega
          have H4 : Hid (Below w3.heap.size w3 w4) := hBq
          clear hBq
          go_wp2_with fail
          refine (SameBytes_any _ _ D (below_sl H4.out H3.out.1) (below_sl H4.out H3.out.2.1) HX.out.2.2.2.2).mono ?_
          rintro e w9 ⟨rfl, hb9⟩
          have H9 : Hid (Below w.heap.size w w9) := below_via H1.out.2.2.2.1 (below_via H3.out.2.2 (below_via H4.out hb9 (Nat.le_refl _)) (Nat.le_refl _)) (Nat.le_refl _)
          clear hb9
          go_wp2_with (first
            | (go_at_call 16; refine (num_any _ _).mono ?_; rintro e w' ⟨rfl, rfl⟩)
            | (go_at_call 18; refine (HSz.out _).mono ?_; rintro e w' ⟨rfl, rfl⟩)
            | (go_at_call 20; refine (HBk.out _).mono ?_; rintro e w' ⟨rfl, rfl⟩)
            | (go_at_call 17; refine (Size_any alg).mono ?_; rintro e w' ⟨rfl, rfl⟩)
            | (go_at_call 19; refine (Block_any alg).mono ?_; rintro e w' ⟨rfl, rfl⟩)
            | (go_at_call 10; refine (live_any (HX.out.2.1.below H9.out)).mono ?_; rintro e w10 ⟨rfl, hb10⟩))
          go_ret
          exact ⟨rfl, below_via H9.out hb10 (Nat.le_refl _)⟩

set_option maxHeartbeats 1000000 in
theorem DigestSums_any {w : World} (alg : Int) (a : Option Addr) (n c : Nat) (vs : List Value) (ms : List (List Int)) (hL : Lists w a n c vs ms) (hl : ∀ i, i < n → (ms.getD i []).length ≤ 9223372036854775807) (hn0 : n ≤ 9223372036854775807) (hT : Tabs w) :
    Calls Tryd.prog 3 #[.int .i64 alg, .slice a n c] w fun e w' => e = .returned (.bool true) ∧ Below w.heap.size w w' := by
  by_cases hmu : muchB ms 65536 = true
  · have HX : Hid (Tabs w) := hT
    have HMu : Hid (∀ w', w = w' → Calls Tryd.prog 9 #[.slice a n c, .int .i64 65536] w' fun e w'' => e = .returned (.bool true) ∧ w' = w'') := fun w' hw => by
      subst hw
      have := much_any a n c 65536 vs ms hL (by omega) (by omega) hl
      rw [hmu] at this
      exact this
    clear hL hmu hT hl
    go_enter Tryd.func3, Tryd.ntmps3
    go_wp2_with (first
      | (go_at_call 9; refine (HMu.out _ rfl).mono ?_; rintro e w' ⟨rfl, rfl⟩)
      | (go_at_call 10; refine (live_any HX.out).mono ?_; rintro e w4 ⟨rfl, hb4⟩))
    go_ret
    exact ⟨rfl, hb4⟩
  · replace hmu : muchB ms 65536 = false := by simpa using hmu
    have hms := much_sum hmu
    have hn1 := muchB_n hmu
    by_cases ha : Alg alg
    · refine DigestSums_main alg (dig alg ms.flatten) 0 (dig_short _ _) a n c vs ms hL hmu hT (fun w' v us hb hv hm => ?_) (fun w' hb => ?_)
      · refine (Sum_any alg ha (hT.below hb) v us ms hv hm (by omega) (by omega)).mono ?_
        rintro e w'' ⟨d, rfl, _, hA, hb'⟩
        refine ⟨_, rfl, ?_, hb'⟩
        have := hA.sl
        rw [dig_len] at this; exact this
      · exact RSum_any alg ha a n c vs ms ⟨hL.sls.below hb, hL.msgs.below hb, hL.len⟩ hms (by rw [hL.len] at hn1; exact hn1)
    · refine DigestSums_main alg [] 1 (by simp) a n c vs ms hL hmu hT (fun w' v us hb hv hm => ?_) (fun w' hb => ?_)
      · refine (Sum_no alg ha v).mono ?_
        rintro e w'' ⟨rfl, hb'⟩
        exact ⟨_, rfl, nil_sl _, hb'⟩
      · refine (RSum_no alg ha _).mono ?_
        rintro e w'' ⟨rfl, rfl⟩
        exact ⟨_, rfl, nil_sl _, Below.refl _ _⟩
end Go.Proofs.YtgipmjpkaemdkaaDoor
