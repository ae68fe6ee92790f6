/-
  Digest: the law DigestStreams, given the reference's Digest (DigestC).
-/
import Derived.Test.YtgipmjpkaemdkaaDoorG40
import Derived.Test.YtgipmjpkaemdkaaDoorG28
import Derived.Test.YtgipmjpkaemdkaaDoorG25
namespace Go.Proofs.YtgipmjpkaemdkaaDoor
open Go.RowKit
/-- What the reference's Digest is to answer. -/
def DigestC : Prop := ∀ (alg : Int) (_ : Alg alg) (w : World) (v : Value) (X : List Int), Sl .u8 w v X → U8s X → X.length ≤ 65536 →
  Calls Tryd.prog 25 #[.int .i64 alg, v] w fun e w' => ∃ r, e = .returned r ∧ Sl .u8 w' r (dig alg X) ∧ Below w.heap.size w w'
theorem Row.at2 {k : IntKind} {e : TypeId} {B : Nat} {w w' : World} {v : Value} {xs : List Int} (h : Row k e B w v xs) (hh : ∀ b S, B ≤ b → b < w.heap.size → Arr k e w b S → Arr k e w' b S) : Row k e B w' v xs := by
  rcases h with h | ⟨b, S, rfl, h1, hA, h2⟩
  · exact .inl h
  · exact .inr ⟨b, S, rfl, h1, hh b S h1 hA.lt hA, h2⟩
theorem LentR8.slx {B : Nat} {w : World} {v : Value} {X : List Int} {g : Nat} (h : LentR8 B w v X) (hg : g < B) : SlX w g v X := by
  have hs := h.sl
  obtain ⟨b, S, rfl, h1, hA, ht, hl, hm⟩ := h
  obtain ⟨a, c, hv, hc, hx⟩ := hs
  simp only [Value.slice.injEq] at hv
  obtain ⟨rfl, _, rfl⟩ := hv
  refine ⟨_, _, rfl, hc, ?_⟩
  rcases hx with hx | ⟨b', off, ha, hb, hr⟩
  · exact .inl hx
  · simp only [Option.some.injEq, Addr.mk.injEq, and_true] at ha
    obtain ⟨rfl, rfl⟩ := ha
    exact .inr ⟨_, _, rfl, hb, by omega, hr⟩
theorem Lent8_n (X : List Int) (v : Value) (w : World) (n : Nat) (hn : X.length = n) (hX : Sl .u8 w v X) (hl : n ≤ 65536) :
    Calls Tryd.prog 11 #[v] w fun e w' => ∃ b S c, e = .returned (.slice (some ⟨b, 0, none⟩) n c) ∧ LentR8 w.heap.size w' (.slice (some ⟨b, 0, none⟩) n c) X ∧ w.heap.size ≤ b ∧ Arr .u8 5 w' b S ∧ n ≤ S.length ∧ Below w.heap.size w w' := by
  subst hn
  refine (Lent8_any X v w hX (by omega)).mono ?_
  rintro e w' ⟨r, rfl, h, hb⟩
  obtain ⟨b, S, rfl, h1, hA, h2, h3, h4⟩ := h
  exact ⟨b, S, _, rfl, ⟨b, S, rfl, h1, hA, h2, h3, h4⟩, h1, hA, by omega, hb⟩
theorem LentR8.upd {B : Nat} {w w' : World} {v : Value} {X : List Int} {g : Nat} (h : LentR8 B w v X) (hu : Upd w w' g) (hg : g < B) : LentR8 B w' v X := by
  obtain ⟨b, S, rfl, h1, hA, h2⟩ := h
  exact ⟨b, S, rfl, h1, hu.arr hA (by omega), h2⟩
theorem u8_take {ms : List (List Int)} (h : U8s ms.flatten) (i : Nat) : U8s (ms.take i).flatten := fun x hx => by
  obtain ⟨l, hl, hx⟩ := List.mem_flatten.1 hx
  exact h x (List.mem_flatten.2 ⟨l, List.mem_of_mem_take hl, hx⟩)
theorem u8_left {M X : List Int} (h : U8s (M ++ X)) : U8s M := fun x hx => h x (List.mem_append_left _ hx)
theorem u8_right {M X : List Int} (h : U8s (M ++ X)) : U8s X := fun x hx => h x (List.mem_append_right _ hx)
theorem much_sum {ms : List (List Int)} {most : Nat} (h : muchB ms most = false) : ms.flatten.length ≤ most := by
  unfold muchB at h
  simp at h
  have := h.1
  simp; omega

set_option maxRecDepth 20000 in
set_option maxHeartbeats 4000000 in
theorem DigestStreams_main (HC : DigestC) {w : World} (alg : Int) (ha : Alg alg) (a : Option Addr) (n c : Nat) (vs : List Value) (ms : List (List Int)) (hL : Lists w a n c vs ms) (hmu : muchB ms 4000 = false) (hn : n ≤ 60) (hT : Tabs w) :
    Calls Tryd.prog 4 #[.int .i64 alg, .slice a n c] w fun e w' => e = .returned (.bool true) ∧ Below w.heap.size w w' := by
  have hz7 := hT.size
  have hms := much_sum hmu
  have HX : Hid (Lists w a n c vs ms ∧ Tabs w ∧ ms.flatten.length ≤ 4000 ∧ ms.length = n ∧ DigestC) := ⟨hL, hT, hms, hL.len, HC⟩
  have HMu : Hid (∀ w', w = w' → Calls Tryd.prog 9 #[.slice a n c, .int .i64 4000] w' fun e w'' => e = .returned (.bool false) ∧ w' = w'') := fun w' hw => by
    subst hw
    have := much_any a n c 4000 vs ms hL (by omega) (by omega) (fun i hi => by
      have h1 := flatten_take_le ms (i + 1)
      rw [flatten_take (by rw [hL.len]; exact hi), List.length_append] at h1
      omega)
    rw [hmu] at this
    exact this
  have HSz : Hid (∀ w' : World, Calls Tryd.prog 18 #[.int .i64 alg] w' fun e w'' => e = .returned (.int .i64 (siz alg)) ∧ w' = w'') := fun w' => RSize_any alg
  have hs0 := siz_alg ha
  clear hL hmu hT hms HC
  go_enter Tryd.func4, Tryd.ntmps4
  go_wp2_with (first
    | (go_at_call 9; refine (HMu.out _ rfl).mono ?_; rintro e w' ⟨rfl, rfl⟩))
  refine (New_any alg ha HX.out.2.1).mono ?_
  rintro e w1 ⟨g1, rfl, hg1, hh, hb⟩
  have H1 : Hid (HashIs w1 g1 alg [] ∧ Below w.heap.size w w1) := ⟨hh, hb⟩
  clear hh hb
  go_wp2_with (first
    | (go_at_call 18; refine (HSz.out _).mono ?_; rintro e w' ⟨rfl, rfl⟩)
    | (go_at_call 16; refine (num_any _ _).mono ?_; rintro e w' ⟨rfl, rfl⟩))
  go_loopw [7, 8] (fun av iv wr => ∃ i : Nat, iv = .int .i64 i ∧ i ≤ n ∧ Row .u8 5 w1.heap.size wr av (ms.take i).flatten ∧ HashIs wr g1 alg (ms.take i).flatten ∧ Below w.heap.size w wr ∧ w1.heap.size ≤ wr.heap.size) (fun _ iv _ => n - (intOf iv).toNat)
  case atStart => exact ⟨0, rfl, by omega, Row.nil _ _ _ _, H1.out.1, H1.out.2, Nat.le_refl _⟩
  case round =>
    obtain ⟨i, rfl, hi, hR, hH, hB, hS⟩ := hrel
    by_cases hlt : i < n
    · obtain ⟨b, off, ai, ni, ci, rfl, hbl, _, hcell, hX, uX, lX⟩ := HX.out.1.at i hlt
      obtain ⟨X, hXe⟩ : ∃ X, ms.getD i [] = X := ⟨_, rfl⟩
      obtain ⟨M, hMe⟩ : ∃ M, (ms.take i).flatten = M := ⟨_, rfl⟩
      have hM' : (ms.take (i + 1)).flatten = M ++ X := by rw [flatten_take (by rw [HX.out.2.2.2.1]; exact hlt), hMe, hXe]
      have hle := flatten_take_le ms (i + 1)
      have uM' : U8s (M ++ X) := by rw [← hM']; exact u8_take (flatten_u8 fun j hj => (HX.out.1.msgs.2 j (by rw [HX.out.1.msgs.1]; exact hj)).2) _
      rw [hXe] at hX uX lX
      rw [hMe] at hR hH
      rw [hM', List.length_append] at hle
      have hlen : M.length + X.length ≤ 4000 := by have := HX.out.2.2.1; omega
      have HM : Hid ((ms.take (i + 1)).flatten = M ++ X ∧ U8s (M ++ X) ∧ X.length = ni ∧ M.length + X.length ≤ 4000 ∧ Sl .u8 w (.slice ai ni ci) X ∧ w.cell? ⟨b, off + i, none⟩ = some (.slice ai ni ci) ∧ b < w.heap.size) := ⟨hM', uM', lX, hlen, hX, hcell, hbl⟩
      have HR : Hid (Row .u8 5 w1.heap.size wr u7 M ∧ HashIs wr g1 alg M ∧ Below w.heap.size w wr ∧ w1.heap.size ≤ wr.heap.size ∧ g1 < w1.heap.size) := ⟨hR, hH, hB, hS, H1.out.1.lt⟩
      have hc0 : wr.cell? ⟨b, off + i, none⟩ = some (.slice ai ni ci) := by rw [hB.cell (p := ⟨b, off + i, none⟩) hbl, hcell]
      have hni : ni ≤ 4000 := by omega
      clear hX uX lX hXe hMe hM' hle uM' hlen hcell hbl hR hH hB hS
      have hiI : (i : Int) < (n : Int) := by omega
      go_wp2_with fail
      refine (Lent8_n X _ wr ni HM.out.2.2.1 (below_sl HR.out.2.2.1 HM.out.2.2.2.2.1) (by omega)).mono ?_
      rintro e w2 ⟨b2, S2, c2, rfl, hl2, hb2, hA2, hn2, hB2⟩
      have H2 : Hid (LentR8 wr.heap.size w2 (.slice (some ⟨b2, 0, none⟩) ni c2) X ∧ wr.heap.size ≤ b2 ∧ Arr .u8 5 w2 b2 S2 ∧ ni ≤ S2.length ∧ Below wr.heap.size wr w2) := ⟨hl2, hb2, hA2, hn2, hB2⟩
      clear hl2 hb2 hA2 hn2 hB2
      go_wp2_with fail
      refine (Write_any g1 alg ha M X (HR.out.2.1.below H2.out.2.2.2.2 (by have := HR.out.2.2.2; omega)) (by omega) (HX.out.2.1.below (below_via HR.out.2.2.1 H2.out.2.2.2.2 (Nat.le_refl _))) _ (H2.out.1.slx (by have := HR.out.2.2.2; omega)) (u8_left HM.out.2.1) (u8_right HM.out.2.1) (by have := HM.out.2.2.2.1; omega) (by have := HM.out.2.2.2.1; omega) (by have := HM.out.2.2.2.1; omega)).mono ?_
      rintro e w3 ⟨rfl, hh, hu⟩
      have H3 : Hid (HashIs w3 g1 alg (M ++ X) ∧ Upd w2 w3 g1 ∧ Below w.heap.size w w3 ∧ LentR8 wr.heap.size w3 (.slice (some ⟨b2, 0, none⟩) ni c2) X ∧ Arr .u8 5 w3 b2 S2) := by
        have h2 := below_via HR.out.2.2.1 H2.out.2.2.2.2 (Nat.le_refl _)
        have hlt := HR.out.2.2.2
        have hb2 := H2.out.2.1
        exact ⟨hh, hu, hu.below h2 h2.size hg1, H2.out.1.upd hu (by omega), hu.arr H2.out.2.2.1 (by omega)⟩
      clear hh hu
      have hc3 : w3.cell? ⟨b, off + i, none⟩ = some (.slice ai ni ci) := by rw [H3.out.2.2.1.cell (p := ⟨b, off + i, none⟩) HM.out.2.2.2.2.2.2, HM.out.2.2.2.2.2.1]
      clear hc0
      go_wp2_with (first
        | (go_at_call 16; refine (num_any _ _).mono ?_; rintro e w' ⟨rfl, rfl⟩))
      refine (Kept8_any _ _ X H3.out.2.2.2.1 (below_sl H3.out.2.2.1 HM.out.2.2.2.2.1) (by have := HM.out.2.2.2.1; omega)).mono ?_
      rintro e w4 ⟨rfl, hb4⟩
      have H4 : Hid (Below w3.heap.size w3 w4) := hb4
      clear hb4 hc3
      go_wp2_with fail
      refine (Spoil_any b2 ni c2 S2 (below_arr H4.out H3.out.2.2.2.2.lt H3.out.2.2.2.2) H2.out.2.2.2.1 (by omega)).mono ?_
      rintro e w5 ⟨rfl, hu, _⟩
      have H5 : Hid (Row .u8 5 w1.heap.size w5 u7 M ∧ HashIs w5 g1 alg (M ++ X) ∧ Below w.heap.size w w5 ∧ w1.heap.size ≤ w5.heap.size) := by
        obtain ⟨h1, h2, h3, h4, h5⟩ := H2.out
        obtain ⟨k1, k2, k3, k4, k5⟩ := H3.out
        obtain ⟨r1, r2, r3, r4, r5⟩ := HR.out
        have s2 := h5.size
        have s3 := k2.size
        have s4 := H4.out.size
        have s5 := hu.size
        refine ⟨r1.at2 fun b' S' hb' hbl' hA' => ?_, ?_, ?_, by omega⟩
        · exact hu.arr (below_arr H4.out (by omega) (k2.arr (below_arr h5 hbl' hA') (by omega))) (by omega)
        · exact (k1.below H4.out k1.lt).upd hu (by omega)
        · have := below_via k3 H4.out (Nat.le_refl _)
          exact hu.below this this.size (by omega)
      clear hu
      have hc5 : w5.cell? ⟨b, off + i, none⟩ = some (.slice ai ni ci) := by rw [H5.out.2.2.1.cell (p := ⟨b, off + i, none⟩) HM.out.2.2.2.2.2.2, HM.out.2.2.2.2.2.1]
      go_wp2_with (at_builtin; refine wpList_ap rfl (.tmp 72) (.tmp 76) 25 25 rfl .u8 5 1 Tryd.und8 Tryd.info8 (by decide) w1.heap.size _ M rfl H5.out.1 _ X rfl (by have := src_sl Tryd.und8 (below_sl H5.out.2.2.1 HM.out.2.2.2.2.1); exact this) (by have := HM.out.2.2.2.1; simp; omega) (by have := H5.out.2.2.2; simp; omega) ?_; intro v6 w6 hr6 hg6)
      have hg : Grew .u8 5 w5 w6 u7 X := hg6
      have hb6 : Below w1.heap.size w5 w6 := hg.below H5.out.1 H5.out.2.2.2
      obtain ⟨N, hN⟩ : ∃ N, (M ++ X).length = N := ⟨_, rfl⟩
      obtain ⟨a6, c6, hv6⟩ := hr6.ne
      rw [hN] at hv6
      subst hv6
      have H6 : Hid (Row .u8 5 w1.heap.size w6 (.slice a6 N c6) (M ++ X) ∧ HashIs w6 g1 alg (M ++ X) ∧ Below w.heap.size w w6 ∧ w1.heap.size ≤ w6.heap.size ∧ (M ++ X).length = N ∧ N ≤ 4000) := by
        have hlt := HR.out.2.2.2.2
        exact ⟨hr6, H5.out.2.1.below hb6 hlt, H5.out.2.2.1.trans (hb6.mono (by omega)), Nat.le_trans H5.out.2.2.2 hb6.size, hN, by rw [← hN, List.length_append]; exact HM.out.2.2.2.1⟩
      clear hg hg6 hb6 hr6 hN hc5
      refine (SumM_dg g1 alg ha (M ++ X) H6.out.2.1 (HX.out.2.1.below H6.out.2.2.1) HM.out.2.1 (by have := H6.out.2.2.2.2; omega)).mono ?_
      rintro e w7 ⟨v7, rfl, hd7, hb7⟩
      have H7 : Hid (Dg w6.heap.size w7 v7 (dig alg (M ++ X)) ∧ Below w6.heap.size w6 w7) := ⟨hd7, hb7⟩
      clear hd7 hb7
      go_wp2_with fail
      refine (HX.out.2.2.2.2 alg ha w7 _ (M ++ X) (below_sl H7.out.2 H6.out.1.sl) HM.out.2.1 (by have := H6.out.2.2.2.2; omega)).mono ?_
      rintro e w8 ⟨v8, rfl, hs8, hb8⟩
      have H8 : Hid (Sl .u8 w8 v7 (dig alg (M ++ X)) ∧ Sl .u8 w8 v8 (dig alg (M ++ X)) ∧ Below w6.heap.size w6 w8) := ⟨(H7.out.1.below hb8).sl, hs8, below_via H7.out.2 hb8 (Nat.le_refl _)⟩
      clear hs8 hb8
      go_wp2_with fail
      refine (SameBytes_any _ _ (dig alg (M ++ X)) H8.out.1 H8.out.2.1 (dig_short _ _)).mono ?_
      rintro e w9 ⟨rfl, hb9⟩
      have H9 : Hid (Row .u8 5 w1.heap.size w9 (.slice a6 N c6) (M ++ X) ∧ HashIs w9 g1 alg (M ++ X) ∧ Below w.heap.size w w9 ∧ w1.heap.size ≤ w9.heap.size) := by
        have h := below_via H8.out.2.2 hb9 (Nat.le_refl _)
        exact ⟨H6.out.1.below h, H6.out.2.1.below h H6.out.2.1.lt, below_via H6.out.2.2.1 h (Nat.le_refl _), Nat.le_trans H6.out.2.2.2.1 h.size⟩
      clear hb9
      have HLe : Hid (∀ w', w9 = w' → Calls Tryd.prog 26 #[.pointer (some ⟨g1, 0, none⟩)] w' fun e w'' => e = .returned (.int .i64 N) ∧ w' = w'') := fun w' hw => by
        subst hw
        exact (Len_any _ alg _ H9.out.2.1).mono fun _ _ h => ⟨by rw [h.1, H6.out.2.2.2.2.1], h.2.symm⟩
      have HAl : Hid (∀ w', w9 = w' → Calls Tryd.prog 27 #[.pointer (some ⟨g1, 0, none⟩)] w' fun e w'' => e = .returned (.int .i64 alg) ∧ w' = w'') := fun w' hw => by
        subst hw
        exact (Alg_any _ alg _ H9.out.2.1).mono fun _ _ h => ⟨h.1, h.2.symm⟩
      go_wp2_with (first
        | (go_at_call 26; refine (HLe.out _ rfl).mono ?_; rintro e w' ⟨rfl, rfl⟩)
        | (go_at_call 27; refine (HAl.out _ rfl).mono ?_; rintro e w' ⟨rfl, rfl⟩))
      go_roundw
      case rel =>
        refine ⟨i + 1, by go_num, by omega, ?_⟩
        rw [HM.out.1]
        exact H9.out
      case measure => simp [intOf]; omega
    · obtain rfl : i = n := by omega
      have hM : (ms.take i).flatten = ms.flatten := by rw [List.take_of_length_le (by have := HX.out.2.2.2.1; omega)]
      rw [hM] at hR hH
      obtain ⟨M, hMe⟩ : ∃ M, ms.flatten = M := ⟨_, rfl⟩
      have uM : U8s M := by rw [← hMe]; exact flatten_u8 fun j hj => (HX.out.1.msgs.2 j (by rw [HX.out.1.msgs.1]; exact hj)).2
      rw [hMe] at hR hH
      have HR : Hid (Row .u8 5 w1.heap.size wr u7 M ∧ HashIs wr g1 alg M ∧ Below w.heap.size w wr ∧ U8s M ∧ M.length ≤ 4000) := ⟨hR, hH, hB, uM, by rw [← hMe]; exact HX.out.2.2.1⟩
      clear hM hR hH hMe uM hB hS
      go_wp2_with fail
      refine (SumM_dg g1 alg ha M HR.out.2.1 (HX.out.2.1.below HR.out.2.2.1) HR.out.2.2.2.1 (by have := HR.out.2.2.2.2; omega)).mono ?_
      rintro e w7 ⟨v7, rfl, hd7, hb7⟩
      have H7 : Hid (Dg wr.heap.size w7 v7 (dig alg M) ∧ Below wr.heap.size wr w7) := ⟨hd7, hb7⟩
      clear hd7 hb7
      go_wp2_with fail
      refine (HX.out.2.2.2.2 alg ha w7 _ M (below_sl H7.out.2 HR.out.1.sl) HR.out.2.2.2.1 (by have := HR.out.2.2.2.2; omega)).mono ?_
      rintro e w8 ⟨v8, rfl, hs8, hb8⟩
      have H8 : Hid (Sl .u8 w8 v7 (dig alg M) ∧ Sl .u8 w8 v8 (dig alg M) ∧ Below wr.heap.size wr w8) := ⟨(H7.out.1.below hb8).sl, hs8, below_via H7.out.2 hb8 (Nat.le_refl _)⟩
      clear hs8 hb8
      go_wp2_with fail
      refine (SameBytes_any _ _ (dig alg M) H8.out.1 H8.out.2.1 (dig_short _ _)).mono ?_
      rintro e w9 ⟨rfl, hb9⟩
      have H9 : Hid (Below w.heap.size w w9) := below_via HR.out.2.2.1 (below_via H8.out.2.2 hb9 (Nat.le_refl _)) (Nat.le_refl _)
      clear hb9
      go_wp2_with (go_at_call 10; refine (live_any (HX.out.2.1.below H9.out)).mono ?_; rintro e w4 ⟨rfl, hb4⟩)
      go_ret
      exact ⟨rfl, below_via H9.out hb4 (Nat.le_refl _)⟩

set_option maxHeartbeats 1000000 in
theorem DigestStreams_no {w : World} (alg : Int) (ha : ¬ Alg alg) (a : Option Addr) (n c : Nat) (vs : List Value) (ms : List (List Int)) (hL : Lists w a n c vs ms) (hmu : muchB ms 4000 = false) (hl : ∀ i, i < n → (ms.getD i []).length ≤ 9223372036854775807) (hn : n ≤ 60) (hT : Tabs w) :
    Calls Tryd.prog 4 #[.int .i64 alg, .slice a n c] w fun e w' => e = .returned (.bool true) ∧ Below w.heap.size w w' := by
  have HX : Hid (Tabs w) := hT
  have HMu : Hid (∀ w', w = w' → Calls Tryd.prog 9 #[.slice a n c, .int .i64 4000] w' fun e w'' => e = .returned (.bool false) ∧ w' = w'') := fun w' hw => by
    subst hw
    have := much_any a n c 4000 vs ms hL (by omega) (by omega) hl
    rw [hmu] at this
    exact this
  have HSz : Hid (∀ w' : World, Calls Tryd.prog 18 #[.int .i64 alg] w' fun e w'' => e = .returned (.int .i64 0) ∧ w' = w'') := fun w' => by have := RSize_any (w := w') alg; rw [siz_no ha] at this; exact this
  clear hL hmu hT hl
  go_enter Tryd.func4, Tryd.ntmps4
  go_wp2_with (first
    | (go_at_call 9; refine (HMu.out _ rfl).mono ?_; rintro e w' ⟨rfl, rfl⟩))
  refine (New_no alg ha).mono ?_
  rintro e w1 ⟨rfl, hb⟩
  have H1 : Hid (Below w.heap.size w w1) := hb
  clear hb
  go_wp2_with (first
    | (go_at_call 18; refine (HSz.out _).mono ?_; rintro e w' ⟨rfl, rfl⟩)
    | (go_at_call 16; refine (num_any _ _).mono ?_; rintro e w' ⟨rfl, rfl⟩)
    | (go_at_call 10; refine (live_any (HX.out.below H1.out)).mono ?_; rintro e w4 ⟨rfl, hb4⟩))
  go_ret
  exact ⟨rfl, below_via H1.out hb4 (Nat.le_refl _)⟩

set_option maxHeartbeats 1000000 in
theorem DigestStreams_any (HC : DigestC) {w : World} (alg : Int) (a : Option Addr) (n c : Nat) (vs : List Value) (ms : List (List Int)) (hL : Lists w a n c vs ms) (hl : ∀ i, i < n → (ms.getD i []).length ≤ 9223372036854775807) (hn0 : n ≤ 9223372036854775807) (hT : Tabs w) :
    Calls Tryd.prog 4 #[.int .i64 alg, .slice a n c] w fun e w' => e = .returned (.bool true) ∧ Below w.heap.size w w' := by
  by_cases hmu : muchB ms 4000 = true
  · have HX : Hid (Tabs w) := hT
    have HMu : Hid (∀ w', w = w' → Calls Tryd.prog 9 #[.slice a n c, .int .i64 4000] w' fun e w'' => e = .returned (.bool true) ∧ w' = w'') := fun w' hw => by
      subst hw
      have := much_any a n c 4000 vs ms hL (by omega) (by omega) hl
      rw [hmu] at this
      exact this
    clear hL hmu hT hl
    go_enter Tryd.func4, Tryd.ntmps4
    go_wp2_with (first
      | (go_at_call 9; refine (HMu.out _ rfl).mono ?_; rintro e w' ⟨rfl, rfl⟩)
      | (go_at_call 10; refine (live_any HX.out).mono ?_; rintro e w4 ⟨rfl, hb4⟩))
    go_ret
    exact ⟨rfl, hb4⟩
  · replace hmu : muchB ms 4000 = false := by simpa using hmu
    by_cases hn : n ≤ 60
    · by_cases ha : Alg alg
      · exact DigestStreams_main HC alg ha a n c vs ms hL hmu hn hT
      · exact DigestStreams_no alg ha a n c vs ms hL hmu hl hn hT
    · have HX : Hid (Tabs w) := hT
      have HMu : Hid (∀ w', w = w' → Calls Tryd.prog 9 #[.slice a n c, .int .i64 4000] w' fun e w'' => e = .returned (.bool false) ∧ w' = w'') := fun w' hw => by
        subst hw
        have := much_any a n c 4000 vs ms hL (by omega) (by omega) hl
        rw [hmu] at this
        exact this
      have hnI : (60 : Int) < (n : Int) := by omega
      clear hL hmu hT hl
      go_enter Tryd.func4, Tryd.ntmps4
      go_wp2_with (first
        | (go_at_call 9; refine (HMu.out _ rfl).mono ?_; rintro e w' ⟨rfl, rfl⟩)
        | (go_at_call 10; refine (live_any HX.out).mono ?_; rintro e w4 ⟨rfl, hb4⟩))
      go_ret
      exact ⟨rfl, hb4⟩
end Go.Proofs.YtgipmjpkaemdkaaDoor
