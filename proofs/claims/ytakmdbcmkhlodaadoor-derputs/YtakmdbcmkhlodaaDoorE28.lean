/-
  Der: the law DerPuts, walked.
-/
import Derived.Test.YtakmdbcmkhlodaaDoorE27
import Derived.Test.YtakmdbcmkhlodaaDoorApV
namespace Go.Proofs.YtakmdbcmkhlodaaDoor
open Go.RowKit
theorem Tryd.undS : Tryd.prog.underlying 22 = some (.slice 23) := by kernel_rfl
theorem Tryd.infoS : (Tryd.prog.info? 23).map (fun i => (i.zero, i.size, i.bytes)) = some (some (.slice none 0 0), 1, 24) := by kernel_rfl
theorem src_v {P : Program} {tx e' T : TypeId} (hk : P.underlying tx = some (.slice e')) {w : World} {b : Nat} {vs : List Value} (h : Blk T w b vs) (ho : ∀ u ∈ vs, u.oneCell' = true) : Src P 1 tx (.slice (some ⟨b, 0, none⟩) vs.length vs.length) vs.length vs w := by
  refine Src.ofSlice w hk _ _ _ _ (by simp) (fun j u hj => ?_) ho
  have hadd : (⟨b, 0, none⟩ : Addr).add j = ⟨b, j, none⟩ := by simp [Addr.add] <;> omega
  rw [hadd, h.cell j, hj]
theorem VRow.sls {e : TypeId} {B : Nat} {w : World} {v : Value} {xs : List Value} (h : VRow e B w v xs) : SlS w v xs := by
  rcases h with ⟨rfl, rfl⟩ | ⟨b, S, rfl, _, hA, hl, ht, _⟩
  · exact ⟨none, 0, rfl, Nat.le_refl _, .inl rfl⟩
  · refine ⟨_, _, rfl, hl, .inr ⟨b, 0, rfl, hA.lt, fun i hi => ?_⟩⟩
    rw [Nat.zero_add, hA.cell i, List.getD_eq_getElem?_getD]
    have : xs[i]? = S[i]? := by rw [← ht, List.getElem?_take, if_pos hi]
    rw [this, List.getElem?_eq_getElem (by omega)]; rfl
theorem LentR8.grew {B : Nat} {w w' : World} {v u : Value} {X : List Int} {ys : List Value} (h : LentR8 B w v X) (hg : VGrew 23 w w' u ys) : LentR8 B w' v X := by
  rcases hg with hg | ⟨b', n, S', _, hB, hU, _, _⟩
  · exact h.below hg
  · obtain ⟨b, S, rfl, h1, hA, h2⟩ := h
    refine ⟨b, S, rfl, h1, hU.arr hA (fun e => ?_), h2⟩
    subst e
    unfold Arr at hA
    unfold Blk at hB
    rw [hA] at hB
    simp at hB
theorem getD_snoc_lt {us : List Value} {x : Value} {j : Nat} (h : j < us.length) : (us ++ [x]).getD j undef = us.getD j undef := by
  rw [List.getD_eq_getElem?_getD, List.getElem?_append_left h, ← List.getD_eq_getElem?_getD]
theorem getD_snoc_eq {us : List Value} {x : Value} {j : Nat} (h : us.length = j) : (us ++ [x]).getD j undef = x := by
  subst h; simp

theorem LentR8.ex {B : Nat} {w : World} {v : Value} {X : List Int} (h : LentR8 B w v X) : ∃ b c, v = .slice (some ⟨b, 0, none⟩) X.length c := by
  obtain ⟨b, S, rfl, _⟩ := h; exact ⟨_, _, rfl⟩
set_option maxHeartbeats 2000000 in
theorem RPut_no {w : World} (c t : Int) (cons : Bool) (v : Value) (h : headOk c t = false) :
    Calls Tryd.prog 7 #[.int .i64 c, .int .i64 t, .bool cons, v] w fun e w' => e = .returned (.tuple #[.slice none 0 0, .int .i64 1]) ∧ w = w' := by
  have h' : c < 0 ∨ (0 ≤ c ∧ 3 < c) ∨ (0 ≤ c ∧ c ≤ 3 ∧ t < 0) ∨ (0 ≤ c ∧ c ≤ 3 ∧ 0 ≤ t ∧ 268435455 < t) ∨ (c = 0 ∧ t = 0) := by unfold headOk at h; simp at h; omega
  clear h
  rcases h' with h | ⟨h, h1⟩ | ⟨h, h1, h2⟩ | ⟨h, h1, h2, h3⟩ | ⟨rfl, rfl⟩
  all_goals
    go_enter Tryd.func7, Tryd.ntmps7
    go_wp2
    go_ret2
    exact ⟨rfl, rfl⟩
/-- What Put answers: bytes that read D, and the error z. -/
def PutC (F : Nat) (c t : Int) (cons : Bool) (v : Value) (D : List Int) (z : Int) (w : World) : Prop :=
  Calls Tryd.prog F #[.int .i64 c, .int .i64 t, .bool cons, v] w fun e w' => ∃ r, e = .returned (.tuple #[r, .int .i64 z]) ∧ Sl .u8 w' r D ∧ Below w.heap.size w w'
set_option maxRecDepth 20000 in
set_option maxHeartbeats 8000000 in
theorem DerPuts_main {w : World} (cl tg : Int) (cons : Bool) (a : Option Addr) (n c : Nat) (vs : List Value) (ms : List (List Int)) (hL : Lists w a n c vs ms) (hl : ∀ i, i < n → (ms.getD i []).length ≤ 9223372036854775807) (hn0 : n ≤ 9223372036854775807) (hT : Tab w)
    (hS : ms.flatten.length ≤ 16384 → n ≤ 1001 → ∃ (D : List Int) (z : Int), D.length ≤ 1152921504606846976 ∧ (∀ (w' : World) (v : Value) (us : List Value), Below w.heap.size w w' → SlS w' v us → Msgs w' us ms → PutC 6 cl tg cons v D z w') ∧ (∀ w' : World, Below w.heap.size w w' → PutC 7 cl tg cons (.slice a n c) D z w')) :
    Calls Tryd.prog 3 #[.int .i64 cl, .int .i64 tg, .bool cons, .slice a n c] w fun e w' => e = .returned (.bool true) ∧ Below w.heap.size w w' := by
  have HX0 : Hid (Lists w a n c vs ms ∧ Tab w ∧ ms.length = n ∧ (∀ i, i < n → (ms.getD i []).length ≤ 9223372036854775807)) := ⟨hL, hT, hL.len, hl⟩
  have HS0 : Hid (ms.flatten.length ≤ 16384 → n ≤ 1001 → ∃ (D : List Int) (z : Int), D.length ≤ 1152921504606846976 ∧ (∀ (w' : World) (v : Value) (us : List Value), Below w.heap.size w w' → SlS w' v us → Msgs w' us ms → PutC 6 cl tg cons v D z w') ∧ (∀ w' : World, Below w.heap.size w w' → PutC 7 cl tg cons (.slice a n c) D z w')) := hS
  have n1 : (n : Int) ≤ 9223372036854775807 := by omega
  clear hL hT hl hS
  go_enter Tryd.func3, Tryd.ntmps3
  go_wp2_with fail
  go_loopw [9, 10] (fun nv iv wr => ∃ i q : Nat, nv = .int .i64 q ∧ iv = .int .i64 i ∧ i ≤ n ∧ i ≤ 1001 ∧ (ms.take i).flatten.length = q ∧ q ≤ 16384 ∧ w = wr) (fun _ iv _ => n - (intOf iv).toNat)
  case atStart => exact ⟨0, 0, rfl, rfl, by omega, by omega, by simp, by omega, rfl⟩
  case round =>
    obtain ⟨i0, q, rfl, rfl, hi0, hi1, hq, hq1, rfl⟩ := hrel
    have HQ : Hid ((ms.take i0).flatten.length = q) := hq
    clear hq
    have q0 : (q : Int) ≤ 16384 := by omega
    by_cases hlt0 : i0 < n
    · have l1 : (i0 : Int) < (n : Int) := by omega
      obtain ⟨b, off, ai, ni, ci, rfl, hb, hvi, hcell, hsl, hu, hni⟩ := HX0.out.1.at i0 hlt0
      have hnm := HX0.out.2.2.2 i0 hlt0
      rw [hni] at hnm
      have HI : Hid ((ms.take (i0 + 1)).flatten.length = q + ni) := by
        show _ = _
        rw [flatten_take (by have := HX0.out.2.2.1; omega), List.length_append, HQ.out, hni]
      clear hvi hsl hu hni
      by_cases hf : 16384 - (q : Int) < (ni : Int)
      · go_wp2_with (go_at_call 4; refine (live_any HX0.out.2.1).mono ?_; rintro e w10 ⟨rfl, hb10⟩)
        go_ret
        exact ⟨rfl, hb10⟩
      · by_cases hm : 1000 < i0
        · have hmI : (1000 : Int) < (i0 : Int) := by omega
          go_wp2_with (go_at_call 4; refine (live_any HX0.out.2.1).mono ?_; rintro e w10 ⟨rfl, hb10⟩)
          go_ret
          exact ⟨rfl, hb10⟩
        · have hmI : ¬ (1000 : Int) < (i0 : Int) := by omega
          go_wp2
          go_roundw
          case rel => exact ⟨i0 + 1, q + ni, by go_num, by go_num, by omega, by omega, HI.out, by omega, trivial⟩
          case measure => simp [intOf]; omega
    · obtain rfl : i0 = n := by omega
      have hms : ms.flatten.length ≤ 16384 := by
        have h1 := HQ.out
        rw [List.take_of_length_le (by have := HX0.out.2.2.1; omega)] at h1
        omega
      obtain ⟨D, z, hD, hS, hR⟩ := HS0.out hms hi1
      have HX : Hid (Lists w a i0 c vs ms ∧ Tab w ∧ ms.flatten.length ≤ 65536 ∧ ms.length = i0 ∧ D.length ≤ 1152921504606846976) := ⟨HX0.out.1, HX0.out.2.1, by omega, HX0.out.2.2.1, hD⟩
      have HS : Hid (∀ (w' : World) (v : Value) (us : List Value), Below w.heap.size w w' → SlS w' v us → Msgs w' us ms → PutC 6 cl tg cons v D z w') := hS
      have HR : Hid (∀ w' : World, Below w.heap.size w w' → PutC 7 cl tg cons (.slice a i0 c) D z w') := hR
      have l0 : ¬ (i0 : Int) < (i0 : Int) := by omega
      clear hms hD hS hR HQ q0 hq1 hi0 hlt0
      obtain ⟨n, hnn⟩ : ∃ n, i0 = n := ⟨_, rfl⟩
      subst hnn
      have hn1 : i0 ≤ 1001 := hi1
      go_wp2_with fail
      go_loopw [11, 12] (fun mv iv wr => ∃ (i : Nat) (us : List Value), iv = .int .i64 i ∧ i ≤ i0 ∧ us.length = i ∧ VRow 23 w.heap.size wr mv us ∧ (∀ j, j < i → LentR8 w.heap.size wr (us.getD j undef) (ms.getD j [])) ∧ Below w.heap.size w wr) (fun _ iv _ => i0 - (intOf iv).toNat)
      case atStart => exact ⟨0, [], rfl, by omega, rfl, VRow.nil _ _ _, fun j hj => by omega, Below.refl _ _⟩
      case round =>
        obtain ⟨i, us, rfl, hi, hus, hV, hLn, hB⟩ := hrel
        by_cases hlt : i < i0
        · obtain ⟨b, off, ai, ni, ci, rfl, hbl, _, hcell, hX, uX, lX⟩ := HX.out.1.at i hlt
          obtain ⟨X, hXe⟩ : ∃ X, ms.getD i [] = X := ⟨_, rfl⟩
          have hle := flatten_take_le ms (i + 1)
          rw [flatten_take (by rw [HX.out.2.2.2.1]; exact hlt), List.length_append] at hle
          rw [hXe] at hX uX lX hle
          have hni : ni ≤ 65536 := by have := HX.out.2.2.1; omega
          have HM : Hid (X.length = ni ∧ Sl .u8 w (.slice ai ni ci) X ∧ ms.getD i [] = X) := ⟨lX, hX, hXe⟩
          have H1 : Hid (us.length = i ∧ VRow 23 w.heap.size wr u11 us ∧ (∀ j, j < i → LentR8 w.heap.size wr (us.getD j undef) (ms.getD j [])) ∧ Below w.heap.size w wr) := ⟨hus, hV, hLn, hB⟩
          have hc0 : wr.cell? ⟨b, off + i, none⟩ = some (.slice ai ni ci) := by rw [hB.cell (p := ⟨b, off + i, none⟩) hbl, hcell]
          clear hX uX lX hXe hle hcell hbl hV hLn hB hus
          have hiI : (i : Int) < (i0 : Int) := by omega
          go_wp2_with fail
          refine (Lent8_n X _ wr ni HM.out.1 (below_sl H1.out.2.2.2 HM.out.2.1) (by omega)).mono ?_
          rintro e w2 ⟨b2, S2, c2, rfl, hl2, hb2, hA2, hn2, hB2⟩
          have H2 : Hid (LentR8 w.heap.size w2 (.slice (some ⟨b2, 0, none⟩) ni c2) X ∧ Below wr.heap.size wr w2 ∧ w.heap.size ≤ w2.heap.size) := ⟨hl2.mono H1.out.2.2.2.size, hB2, Nat.le_trans H1.out.2.2.2.size hB2.size⟩
          clear hl2 hb2 hA2 hn2 hB2 hc0
          go_wp2_with (at_builtin; refine wpList_apv rfl (.tmp 50) (.tmp 56) 22 22 rfl (.slice none 0 0) rfl 23 24 Tryd.undS Tryd.infoS (by decide) w.heap.size _ us rfl ((H1.out.2.1.below H2.out.2.1).alloc _) _ [.slice (some ⟨b2, 0, none⟩) ni c2] rfl (src_v (T := 23) (vs := [.slice (some ⟨b2, 0, none⟩) ni c2]) Tryd.undS (blk_nw rfl rfl) (by intro u hu; simp only [List.mem_singleton] at hu; subst hu; rfl)) (by have := H1.out.1; simp only [List.length_cons, List.length_nil]; omega) (by have := H2.out.2.2; simp; omega) ?_; intro v3 w3 hr hg)
          have H3 : Hid (VRow 23 w.heap.size w3 v3 (us ++ [.slice (some ⟨b2, 0, none⟩) ni c2]) ∧ (∀ j, j < i + 1 → LentR8 w.heap.size w3 ((us ++ [Value.slice (some ⟨b2, 0, none⟩) ni c2]).getD j undef) (ms.getD j [])) ∧ Below w.heap.size w w3 ∧ (us ++ [Value.slice (some ⟨b2, 0, none⟩) ni c2]).length = i + 1) := by
            refine ⟨hr, fun j hj => ?_, ?_, by rw [List.length_append, H1.out.1]; rfl⟩
            · by_cases hji : j < i
              · rw [getD_snoc_lt (by rw [H1.out.1]; exact hji)]
                exact (((H1.out.2.2.1 j hji).below H2.out.2.1).below (al1 _)).grew hg
              · obtain rfl : j = i := by omega
                rw [getD_snoc_eq H1.out.1, HM.out.2.2]
                exact (H2.out.1.below (al1 _)).grew hg
            · have h1 : Below w.heap.size w w2 := below_via H1.out.2.2.2 H2.out.2.1 (Nat.le_refl _)
              exact (below_via h1 (al1 _) (Nat.le_refl _)).trans (hg.below ((H1.out.2.1.below H2.out.2.1).alloc _) (by have := H2.out.2.2; simp; omega))
          clear hr hg
          go_roundw
          case rel => exact ⟨i + 1, _, by go_num, by omega, H3.out.2.2.2, H3.out.1, H3.out.2.1, H3.out.2.2.1⟩
          case measure => simp [intOf]; omega
        · obtain rfl : i = i0 := by omega
          obtain ⟨am, cm, rfl, hcm, hx⟩ := hV.sls
          have hmg : Msgs wr us ms := ⟨by rw [hus]; exact HX.out.2.2.2.1.symm, fun j hj => ⟨(hLn j (by omega)).sl, (HX.out.1.msgs.2 j (by rw [HX.out.1.msgs.1, HX.out.2.2.2.1]; omega)).2⟩⟩
          rw [hus] at hcm
          have H1 : Hid (us.length = i ∧ SlS wr (.slice am i cm) us ∧ (∀ j, j < i → LentR8 w.heap.size wr (us.getD j undef) (ms.getD j [])) ∧ Below w.heap.size w wr ∧ Msgs wr us ms ∧ (us = [] ∨ ∃ b off, am = some ⟨b, off, none⟩ ∧ b < wr.heap.size ∧ ∀ j, j < i → wr.cell? ⟨b, off + j, none⟩ = some (us.getD j undef))) := ⟨hus, by have := hV.sls; rw [hus] at this; exact this, hLn, hB, hmg, by rw [hus] at hx; exact hx⟩
          simp only [hus]
          clear hV hLn hB hus hx hmg
          go_wp2_with fail
          refine (HS.out wr _ us H1.out.2.2.2.1 H1.out.2.1 H1.out.2.2.2.2.1).mono ?_
          rintro e w2 ⟨r1, rfl, hs1, hb1⟩
          have H2 : Hid (Sl .u8 w2 r1 D ∧ Below wr.heap.size wr w2) := ⟨hs1, hb1⟩
          clear hs1 hb1
          go_wp2_with fail
          refine (HR.out w2 (below_via H1.out.2.2.2.1 H2.out.2 (Nat.le_refl _))).mono ?_
          rintro e w3 ⟨r2, rfl, hs2, hb2⟩
          have H3 : Hid (Sl .u8 w3 r1 D ∧ Sl .u8 w3 r2 D ∧ Below wr.heap.size wr w3) := ⟨below_sl hb2 H2.out.1, hs2, below_via H2.out.2 hb2 (Nat.le_refl _)⟩
          clear hs2 hb2
          go_wp2_with fail
          go_loopw [17] (fun iv wq => ∃ k : Nat, iv = .int .i64 k ∧ k ≤ i ∧ Below w3.heap.size w3 wq) (fun iv _ => i - (intOf iv).toNat)
          case atStart => exact ⟨0, rfl, by omega, Below.refl _ _⟩
          case round =>
            obtain ⟨k, rfl, hk, hBq⟩ := hrel
            rename World => w4
            by_cases hki : k < i
            · obtain ⟨b, off, ai, ni, ci, rfl, hbl, _, hcell, hX, uX, lX⟩ := HX.out.1.at k hki
              obtain ⟨bm, om, rfl, hbm, hcm2⟩ : ∃ b off, am = some ⟨b, off, none⟩ ∧ b < wr.heap.size ∧ ∀ j, j < i → wr.cell? ⟨b, off + j, none⟩ = some (us.getD j undef) := by
                rcases H1.out.2.2.2.2.2 with h | h
                · have := H1.out.1; rw [h] at this; simp at this; omega
                · exact h
              have hw4 : Below wr.heap.size wr w4 := below_via H3.out.2.2 hBq (Nat.le_refl _)
              have hw04 : Below w.heap.size w w4 := below_via H1.out.2.2.2.1 hw4 (Nat.le_refl _)
              have hcl := hcm2 k hki
              have hLk := (H1.out.2.2.1 k hki).below hw4
              obtain ⟨X, hXe⟩ : ∃ X, ms.getD k [] = X := ⟨_, rfl⟩
              rw [hXe] at hX lX hLk
              have hle := flatten_take_le ms (k + 1)
              rw [flatten_take (by rw [HX.out.2.2.2.1]; exact hki), List.length_append, hXe] at hle
              obtain ⟨bk, ck, hbk⟩ := hLk.ex
              rw [hbk] at hLk hcl
              rw [lX] at hLk hcl
              have c1 : w4.cell? ⟨bm, om + k, none⟩ = some (.slice (some ⟨bk, 0, none⟩) ni ck) := by rw [hw4.cell (p := ⟨bm, om + k, none⟩) hbm, hcl]
              have c2 : w4.cell? ⟨b, off + k, none⟩ = some (.slice ai ni ci) := by rw [hw04.cell (p := ⟨b, off + k, none⟩) hbl, hcell]
              have H4 : Hid (LentR8 w.heap.size w4 (.slice (some ⟨bk, 0, none⟩) ni ck) X ∧ Sl .u8 w4 (.slice ai ni ci) X ∧ X.length ≤ 65536 ∧ Below w3.heap.size w3 w4) := ⟨hLk, below_sl hw04 hX, by have := HX.out.2.2.1; omega, hBq⟩
              have hkI : (k : Int) < (i : Int) := by omega
              clear hbl hcell hX uX lX hbm hcm2 hw4 hw04 hcl hLk hXe hle hbk hBq
              go_upto_region 18 with (fail)
              refine wp_region_qsd 8 (by kernel_rfl) (by kernel_rfl) ?_
              simp only [List.take_succ_cons, List.take_zero, List.drop_succ_cons, List.drop_zero]
              repeat (go_big_quiet_step (fail))
              refine wpQuiet_nil ?_
              rintro _ ⟨q2, rfl⟩
              go_wp2_with fail
              refine (Kept8_any (B := w.heap.size) (w := w4.drewN q2) _ _ X H4.out.1 H4.out.2.1 (by have := H4.out.2.2.1; omega)).mono ?_
              rintro e w5 ⟨rfl, hb5⟩
              have H5 : Hid (Below w3.heap.size w3 w5) := below_via (below_drewN q2 H4.out.2.2.2) hb5 (Nat.le_refl _)
              clear hb5
              go_wp2
              go_roundw
              case rel => exact ⟨k + 1, by go_num, by omega, H5.out⟩
              case measure => simp [intOf]; omega
            · obtain rfl : k = i := by omega
              have H4 : Hid (Below w3.heap.size w3 w4) := hBq
              clear hBq
              go_wp2_with fail
              refine (SameBytes_any _ _ D (below_sl H4.out H3.out.1) (below_sl H4.out H3.out.2.1) HX.out.2.2.2.2).mono ?_
              rintro e w9 ⟨rfl, hb9⟩
              have H9 : Hid (Below w.heap.size w w9) := below_via H1.out.2.2.2.1 (below_via H3.out.2.2 (below_via H4.out hb9 (Nat.le_refl _)) (Nat.le_refl _)) (Nat.le_refl _)
              clear hb9
              go_wp2_with (first
                | (go_at_call 10; refine (num4_any _ _).mono ?_; rintro e w' ⟨rfl, rfl⟩)
                | (go_at_call 4; refine (live_any (HX.out.2.1.below H9.out)).mono ?_; rintro e w10 ⟨rfl, hb10⟩))
              go_ret
              exact ⟨rfl, below_via H9.out hb10 (Nat.le_refl _)⟩
end Go.Proofs.YtakmdbcmkhlodaaDoor
