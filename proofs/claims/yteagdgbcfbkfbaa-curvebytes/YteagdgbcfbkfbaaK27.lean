/-
  The reference's Parse. (wip/mku36.py)
-/
import Derived.Lib.AppendZeros
import Derived.Test.YteagdgbcfbkfbaaK26
namespace Go.Proofs.Yteagdgbcfbkfbaa
open Go.RowKit
set_option maxRecDepth 20000
theorem RFromB {w : World} (v : Value) (B : List Int) (hB : Sl .u8 w v B) (uB : U8s B) (lB : B.length ≤ 2048) : Calls Try.prog 59 #[v] w fun e w' => ∃ a n c, e = .returned (.tuple #[.slice a n c, .int .i64 0]) ∧ Nb w' (.slice a n c) (bnum B) ∧ Below w.heap.size w w' := by
  refine (Nt.RFromBytes_any B v w hB (fun x hx => uB x hx)).mono ?_
  rintro e w' ⟨⟨r, rfl, hr⟩, hb⟩
  have e1 : Nt.fromS B = (lim (bnum B), 0) := by unfold Nt.fromS; rw [if_neg (by omega)]; rfl
  rw [e1] at hr ⊢
  have hn : Nb w' r (bnum B) := hr
  obtain ⟨a, c, rfl⟩ := hn.form
  exact ⟨a, _, c, rfl, hn, hb⟩

set_option maxHeartbeats 4000000 in
theorem RParse_no {w : World} (c : Int) (hc : crv c = none) (v : Value) (S : List Int) : Calls Try.prog 25 #[.int .i64 c, v] w (PrsA w c S) := by
  have HN : Hid (prsS c S = (0, 0, 1)) := by show _ = _; unfold prsS; rw [hc]
  have HZ : Hid (∀ W : World, Calls Try.prog 58 #[.int .i64 c] W fun e w' => e = .returned (.int .i64 0) ∧ Below W.heap.size W w') := fun W => by have h := RSize_any (w := W) c; rw [hc] at h; exact h
  clear hc
  go_enter Try.func25, Try.ntmps25
  go_upto_region 1 with (fail)
  refine wp_gen (fun W => Blk 24 W w.heap.size [.slice none 0 0, .slice none 0 0] ∧ Below w.heap.size w W) ⟨Blk.new _ w _, al1 _⟩ ?_
  rintro W2 ⟨hB, hBw⟩
  have H2 : Hid (Below w.heap.size w W2 ∧ Blk 24 W2 w.heap.size [.slice none 0 0, .slice none 0 0]) := ⟨hBw, hB⟩
  clear hB hBw
  go_wp2_with fail
  refine (HZ.out _).mono ?_
  rintro e W4 ⟨rfl, hb4⟩
  have hB := below_blk hb4 H2.out.2.lt H2.out.2
  have H4 : Hid (Below w.heap.size w W4 ∧ Blk 24 W4 w.heap.size [.slice none 0 0, .slice none 0 0]) := ⟨below_via H2.out.1 hb4 (Nat.le_refl _), hB⟩
  have d0 : W4.cell? ⟨w.heap.size, 0, none⟩ = some (.slice none 0 0) := hB.cell 0
  have d1 : W4.cell? ⟨w.heap.size, 1, none⟩ = some (.slice none 0 0) := hB.cell 1
  have g0 := hB.frozen 0; have g1 := hB.frozen 1
  clear hB hb4
  go_wp2
  obtain ⟨hF, hU⟩ := Blk.put2 H4.out.2 (.slice none 0 0) (.slice none 0 0)
  have hbl := hU.below H4.out.1 H4.out.1.size (Nat.le_refl _)
  exact bodyPost_ret (results_blk2 rfl rfl hF Try.underlying24 rfl Try.sizePt rfl) rfl (by exact PrsA.no HN.out hbl)

set_option maxHeartbeats 8000000 in
theorem RParse_1 {w : World} (a : Option Addr) (n cp : Nat) (S : List Int) (hS : Sl .u8 w (.slice a n cp) S) (uS : U8s S) : Calls Try.prog 25 #[.int .i64 1, .slice a n cp] w (PrsA w 1 S) := by
  have HN : Hid (prsS 1 S = prsC c256 S) := rfl
  obtain ⟨hlen, hcp⟩ : n = S.length ∧ S.length ≤ cp := by obtain ⟨a', c', hv, hc, _⟩ := hS; simp only [Value.slice.injEq] at hv; obtain ⟨rfl, rfl, rfl⟩ := hv; exact ⟨rfl, hc⟩
  have HS : Hid (Sl .u8 w (.slice a n cp) S ∧ U8s S ∧ n = S.length) := ⟨hS, uS, hlen⟩
  have HCp : Hid (S.length ≤ cp) := hcp
  have HZ : Hid (∀ W : World, Calls Try.prog 58 #[.int .i64 1] W fun e w' => e = .returned (.int .i64 32) ∧ Below W.heap.size W w') := fun W => RSize_any (w := W) 1
  clear hS uS hlen hcp
  go_enter Try.func25, Try.ntmps25
  go_upto_region 1 with (fail)
  refine wp_gen (fun W => Blk 24 W w.heap.size [.slice none 0 0, .slice none 0 0] ∧ Below w.heap.size w W) ⟨Blk.new _ w _, al1 _⟩ ?_
  rintro W2 ⟨hB, hBw⟩
  have H2 : Hid (Below w.heap.size w W2 ∧ Blk 24 W2 w.heap.size [.slice none 0 0, .slice none 0 0]) := ⟨hBw, hB⟩
  clear hB hBw
  go_wp2_with fail
  refine (HZ.out _).mono ?_
  rintro e W4 ⟨rfl, hb4⟩
  have hB := below_blk hb4 H2.out.2.lt H2.out.2
  have H4 : Hid (Below w.heap.size w W4 ∧ Blk 24 W4 w.heap.size [.slice none 0 0, .slice none 0 0]) := ⟨below_via H2.out.1 hb4 (Nat.le_refl _), hB⟩
  have d0 : W4.cell? ⟨w.heap.size, 0, none⟩ = some (.slice none 0 0) := hB.cell 0
  have d1 : W4.cell? ⟨w.heap.size, 1, none⟩ = some (.slice none 0 0) := hB.cell 1
  have g0 := hB.frozen 0; have g1 := hB.frozen 1
  clear hB hb4 H2
  have hlen := HS.out.2.2
  by_cases hn : n = 65
  · subst hn
    obtain ⟨bb, off, rfl, _⟩ := sl_part HS.out.1 1 32 (by omega) (by omega)
    have q0 : W4.cell? ⟨bb, off, none⟩ = some (.int .u8 (S.getD 0 0)) := by
      obtain ⟨a', c', hv, _, hx⟩ := below_sl H4.out.1 HS.out.1
      simp only [Value.slice.injEq] at hv
      obtain ⟨rfl, _, rfl⟩ := hv
      rcases hx with hx | ⟨b, o, he, _, hr⟩
      · subst hx; simp at hlen
      · simp only [Option.some.injEq, Addr.mk.injEq] at he
        obtain ⟨rfl, rfl, _⟩ := he
        exact hr 0 (by omega)
    obtain ⟨s0, hs0⟩ : ∃ z, S.getD 0 0 = z := ⟨_, rfl⟩
    rw [hs0] at q0
    by_cases h4 : s0 = 4
    · subst h4
      have hc1 : 65 ≤ cp := by have := HCp.out; omega
      have HFx : Hid (∀ W, Below w.heap.size w W → Calls Try.prog 59 #[.slice (some ⟨bb, off + 1, none⟩) 32 (cp - 1)] W fun e w' => ∃ a n c, e = .returned (.tuple #[.slice a n c, .int .i64 0]) ∧ Nb w' (.slice a n c) (bnum ((S.drop 1).take 32)) ∧ Below W.heap.size W w') := fun W hW => by
        obtain ⟨b, o, he, hs⟩ := sl_part (below_sl hW HS.out.1) 1 32 (by omega) (by omega)
        simp only [Option.some.injEq, Addr.mk.injEq] at he
        obtain ⟨rfl, rfl, _⟩ := he
        exact RFromB _ _ hs (fun x hx => HS.out.2.1 x (List.mem_of_mem_drop (List.mem_of_mem_take hx))) (by rw [List.length_take]; omega)
      have HFy : Hid (∀ W, Below w.heap.size w W → Calls Try.prog 59 #[.slice (some ⟨bb, off + 33, none⟩) 32 (cp - 33)] W fun e w' => ∃ a n c, e = .returned (.tuple #[.slice a n c, .int .i64 0]) ∧ Nb w' (.slice a n c) (bnum (S.drop (1 + 32))) ∧ Below W.heap.size W w') := fun W hW => by
        obtain ⟨b, o, he, hs⟩ := sl_part (below_sl hW HS.out.1) 33 32 (by omega) (by omega)
        simp only [Option.some.injEq, Addr.mk.injEq] at he
        obtain ⟨rfl, rfl, _⟩ := he
        have e1 : (S.drop 33).take 32 = S.drop (1 + 32) := by rw [List.take_of_length_le (by rw [List.length_drop]; omega)]
        rw [e1] at hs
        exact RFromB _ _ hs (fun x hx => HS.out.2.1 x (List.mem_of_mem_drop hx)) (by rw [List.length_drop]; omega)
      have HLx : Hid ((lim (bnum ((S.drop 1).take 32))).length ≤ 1000000) := Nat.le_trans (bnum_len (fun x hx => HS.out.2.1 x (List.mem_of_mem_drop (List.mem_of_mem_take hx)))) (by rw [List.length_take]; omega)
      have HLy : Hid ((lim (bnum (S.drop (1 + 32)))).length ≤ 1000000) := Nat.le_trans (bnum_len (fun x hx => HS.out.2.1 x (List.mem_of_mem_drop hx))) (by rw [List.length_drop]; omega)
      have HE : Hid (prsS 1 S = if farB (lim (bnum ((S.drop 1).take 32))) (lim (bnum (S.drop (1 + 32)))) = false ∧ onB c256.p c256.b (lim (bnum ((S.drop 1).take 32))) (lim (bnum (S.drop (1 + 32)))) = true then (bnum ((S.drop 1).take 32), bnum (S.drop (1 + 32)), 0) else (0, 0, 90)) := by
        show _ = _
        rw [HN.out]; unfold prsC; rw [if_pos ⟨hlen.symm, hs0⟩]; rfl
      obtain ⟨x, hx⟩ : ∃ x, bnum ((S.drop 1).take 32) = x := ⟨_, rfl⟩
      obtain ⟨y, hy⟩ : ∃ y, bnum (S.drop (1 + 32)) = y := ⟨_, rfl⟩
      rw [hx] at HFx HLx HE
      rw [hy] at HFy HLy HE
      clear hlen hs0 HS HN hx hy
      go_wp2_with fail
      refine (HFx.out _ H4.out.1).mono ?_
      rintro e w5 ⟨xa, xn, xc, rfl, hnx, hb5⟩
      have H5 : Hid (Below W4.heap.size W4 w5 ∧ Nb w5 (.slice xa xn xc) x) := ⟨hb5, hnx⟩
      clear hb5 hnx d0 d1 g0 g1 q0
      go_wp2_with fail
      refine (HFy.out _ (below_via H4.out.1 H5.out.1 (Nat.le_refl _))).mono ?_
      rintro e w6 ⟨ya, yn, yc, rfl, hny, hb6⟩
      have H6 : Hid (Below W4.heap.size W4 w6 ∧ Nb w6 (.slice xa xn xc) x ∧ Nb w6 (.slice ya yn yc) y) := ⟨below_via H5.out.1 hb6 (Nat.le_refl _), H5.out.2.below hb6, hny⟩
      clear hb6 hny H5
      go_upto_region 9 with (fail)
      refine wp_gen (fun W => Blk 24 W w6.heap.size [.slice xa xn xc, .slice ya yn yc] ∧ Below w6.heap.size w6 W) ⟨Blk.new _ _ _, al1 _⟩ ?_
      rintro W7 ⟨hB7, hb7⟩
      have hb47 : Below W4.heap.size W4 W7 := below_via H6.out.1 hb7 (Nat.le_refl _)
      have H7 : Hid (Below w.heap.size w W7 ∧ Nb W7 (.slice xa xn xc) x ∧ Nb W7 (.slice ya yn yc) y ∧ Blk 24 W7 w.heap.size [.slice none 0 0, .slice none 0 0] ∧ Blk 24 W7 w6.heap.size [.slice xa xn xc, .slice ya yn yc]) := ⟨below_via H4.out.1 hb47 (Nat.le_refl _), H6.out.2.1.below hb7, H6.out.2.2.below hb7, below_blk hb47 H4.out.2.lt H4.out.2, hB7⟩
      have p0 : W7.cell? ⟨w6.heap.size, 0, none⟩ = some (.slice xa xn xc) := hB7.cell 0
      have p1 : W7.cell? ⟨w6.heap.size, 1, none⟩ = some (.slice ya yn yc) := hB7.cell 1
      clear hB7 hb7 hb47 H6 H4
      go_wp2_with fail
      refine (RFar _ _ (lim x) (lim y) H7.out.2.1 H7.out.2.2.1 (lim_u32 _) (lim_u32 _) HLx.out HLy.out).mono ?_
      rintro e w8 ⟨rfl, hb8⟩
      have H8 : Hid (Below w.heap.size w w8 ∧ Nb w8 (.slice xa xn xc) x ∧ Nb w8 (.slice ya yn yc) y ∧ Blk 24 w8 w.heap.size [.slice none 0 0, .slice none 0 0] ∧ Blk 24 w8 w6.heap.size [.slice xa xn xc, .slice ya yn yc]) := ⟨below_via H7.out.1 hb8 (Nat.le_refl _), H7.out.2.1.below hb8, H7.out.2.2.1.below hb8, below_blk hb8 H7.out.2.2.2.1.lt H7.out.2.2.2.1, below_blk hb8 H7.out.2.2.2.2.lt H7.out.2.2.2.2⟩
      clear hb8 p0 p1 H7
      cases hf : farB (lim x) (lim y) with
      | true =>
        have HE2 : Hid (prsS 1 S = (0, 0, 90)) := HE.out.trans (if_neg (by rw [hf]; simp))
        have d0 : w8.cell? ⟨w.heap.size, 0, none⟩ = some (.slice none 0 0) := H8.out.2.2.2.1.cell 0
        have d1 : w8.cell? ⟨w.heap.size, 1, none⟩ = some (.slice none 0 0) := H8.out.2.2.2.1.cell 1
        have g0 := H8.out.2.2.2.1.frozen 0; have g1 := H8.out.2.2.2.1.frozen 1
        clear hf HE
        go_wp2
        obtain ⟨hF, hU⟩ := Blk.put2 H8.out.2.2.2.1 (.slice none 0 0) (.slice none 0 0)
        have hbl := hU.below H8.out.1 H8.out.1.size (Nat.le_refl _)
        exact bodyPost_ret (results_blk2 rfl rfl hF Try.underlying24 rfl Try.sizePt rfl) rfl (by exact PrsA.no HE2.out hbl)
      | false =>
        have HE1 : Hid (prsS 1 S = if onC 1 (lim x) (lim y) = true then (x, y, 0) else (0, 0, 90)) := by
          show _ = _
          rw [HE.out, hf]; simp only [true_and]; rfl
        clear HE hf
        have p0 : w8.cell? ⟨w6.heap.size, 0, none⟩ = some (.slice xa xn xc) := H8.out.2.2.2.2.cell 0
        have p1 : w8.cell? ⟨w6.heap.size, 1, none⟩ = some (.slice ya yn yc) := H8.out.2.2.2.2.cell 1
        go_wp2_with fail
        refine (ROn_any 1 xa xn xc ya yn yc (lim x) (lim y) H8.out.2.1 H8.out.2.2.1 (lim_u32 _) (lim_u32 _) HLx.out HLy.out).mono ?_
        rintro e w9 ⟨rfl, hb9⟩
        have H9 : Hid (Below w.heap.size w w9 ∧ Nb w9 (.slice xa xn xc) x ∧ Nb w9 (.slice ya yn yc) y ∧ Blk 24 w9 w.heap.size [.slice none 0 0, .slice none 0 0] ∧ Blk 24 w9 w6.heap.size [.slice xa xn xc, .slice ya yn yc]) := ⟨below_via H8.out.1 hb9 (Nat.le_refl _), H8.out.2.1.below hb9, H8.out.2.2.1.below hb9, below_blk hb9 H8.out.2.2.2.1.lt H8.out.2.2.2.1, below_blk hb9 H8.out.2.2.2.2.lt H8.out.2.2.2.2⟩
        have d0 : w9.cell? ⟨w.heap.size, 0, none⟩ = some (.slice none 0 0) := H9.out.2.2.2.1.cell 0
        have d1 : w9.cell? ⟨w.heap.size, 1, none⟩ = some (.slice none 0 0) := H9.out.2.2.2.1.cell 1
        have g0 := H9.out.2.2.2.1.frozen 0; have g1 := H9.out.2.2.2.1.frozen 1
        have p2 : w9.cell? ⟨w6.heap.size, 0, none⟩ = some (.slice xa xn xc) := H9.out.2.2.2.2.cell 0
        have p3 : w9.cell? ⟨w6.heap.size, 1, none⟩ = some (.slice ya yn yc) := H9.out.2.2.2.2.cell 1
        clear hb9 p0 p1 H8
        cases ho : onC 1 (lim x) (lim y) with
        | true =>
          have HE2 : Hid (prsS 1 S = (x, y, 0)) := HE1.out.trans (if_pos ho)
          clear ho HE1
          go_wp2
          obtain ⟨hF, hU⟩ := Blk.put2 H9.out.2.2.2.1 (.slice xa xn xc) (.slice ya yn yc)
          have hbl := hU.below H9.out.1 H9.out.1.size (Nat.le_refl _)
          exact bodyPost_ret (results_blk2 rfl rfl hF Try.underlying24 rfl Try.sizePt rfl) rfl (by exact PrsA.yes HE2.out (H9.out.2.1.upd H9.out.2.2.2.1 noInts hU) (H9.out.2.2.1.upd H9.out.2.2.2.1 noInts hU) hbl)
        | false =>
          have HE2 : Hid (prsS 1 S = (0, 0, 90)) := HE1.out.trans (if_neg (by rw [ho]; decide))
          clear ho HE1
          go_wp2
          obtain ⟨hF, hU⟩ := Blk.put2 H9.out.2.2.2.1 (.slice none 0 0) (.slice none 0 0)
          have hbl := hU.below H9.out.1 H9.out.1.size (Nat.le_refl _)
          exact bodyPost_ret (results_blk2 rfl rfl hF Try.underlying24 rfl Try.sizePt rfl) rfl (by exact PrsA.no HE2.out hbl)
    · have h40 : (s0 != 4) = true := by simp; exact h4
      have HE : Hid (prsS 1 S = (0, 0, 6)) := by show _ = _; rw [HN.out]; unfold prsC; rw [if_neg (by rw [hs0]; omega)]
      clear hs0 h4 HS hlen
      go_wp2
      obtain ⟨hF, hU⟩ := Blk.put2 H4.out.2 (.slice none 0 0) (.slice none 0 0)
      have hbl := hU.below H4.out.1 H4.out.1.size (Nat.le_refl _)
      exact bodyPost_ret (results_blk2 rfl rfl hF Try.underlying24 rfl Try.sizePt rfl) rfl (by exact PrsA.no HE.out hbl)
  · have hn0 : ((n : Int) != 65) = true := by simp; omega
    have HE : Hid (prsS 1 S = (0, 0, 6)) := by show _ = _; rw [HN.out]; unfold prsC; rw [if_neg (by rw [← hlen]; show ¬ (n = 65 ∧ _); omega)]
    clear hn HS hlen
    go_wp2
    obtain ⟨hF, hU⟩ := Blk.put2 H4.out.2 (.slice none 0 0) (.slice none 0 0)
    have hbl := hU.below H4.out.1 H4.out.1.size (Nat.le_refl _)
    exact bodyPost_ret (results_blk2 rfl rfl hF Try.underlying24 rfl Try.sizePt rfl) rfl (by exact PrsA.no HE.out hbl)

set_option maxHeartbeats 8000000 in
theorem RParse_2 {w : World} (a : Option Addr) (n cp : Nat) (S : List Int) (hS : Sl .u8 w (.slice a n cp) S) (uS : U8s S) : Calls Try.prog 25 #[.int .i64 2, .slice a n cp] w (PrsA w 2 S) := by
  have HN : Hid (prsS 2 S = prsC c384 S) := rfl
  obtain ⟨hlen, hcp⟩ : n = S.length ∧ S.length ≤ cp := by obtain ⟨a', c', hv, hc, _⟩ := hS; simp only [Value.slice.injEq] at hv; obtain ⟨rfl, rfl, rfl⟩ := hv; exact ⟨rfl, hc⟩
  have HS : Hid (Sl .u8 w (.slice a n cp) S ∧ U8s S ∧ n = S.length) := ⟨hS, uS, hlen⟩
  have HCp : Hid (S.length ≤ cp) := hcp
  have HZ : Hid (∀ W : World, Calls Try.prog 58 #[.int .i64 2] W fun e w' => e = .returned (.int .i64 48) ∧ Below W.heap.size W w') := fun W => RSize_any (w := W) 2
  clear hS uS hlen hcp
  go_enter Try.func25, Try.ntmps25
  go_upto_region 1 with (fail)
  refine wp_gen (fun W => Blk 24 W w.heap.size [.slice none 0 0, .slice none 0 0] ∧ Below w.heap.size w W) ⟨Blk.new _ w _, al1 _⟩ ?_
  rintro W2 ⟨hB, hBw⟩
  have H2 : Hid (Below w.heap.size w W2 ∧ Blk 24 W2 w.heap.size [.slice none 0 0, .slice none 0 0]) := ⟨hBw, hB⟩
  clear hB hBw
  go_wp2_with fail
  refine (HZ.out _).mono ?_
  rintro e W4 ⟨rfl, hb4⟩
  have hB := below_blk hb4 H2.out.2.lt H2.out.2
  have H4 : Hid (Below w.heap.size w W4 ∧ Blk 24 W4 w.heap.size [.slice none 0 0, .slice none 0 0]) := ⟨below_via H2.out.1 hb4 (Nat.le_refl _), hB⟩
  have d0 : W4.cell? ⟨w.heap.size, 0, none⟩ = some (.slice none 0 0) := hB.cell 0
  have d1 : W4.cell? ⟨w.heap.size, 1, none⟩ = some (.slice none 0 0) := hB.cell 1
  have g0 := hB.frozen 0; have g1 := hB.frozen 1
  clear hB hb4 H2
  have hlen := HS.out.2.2
  by_cases hn : n = 97
  · subst hn
    obtain ⟨bb, off, rfl, _⟩ := sl_part HS.out.1 1 48 (by omega) (by omega)
    have q0 : W4.cell? ⟨bb, off, none⟩ = some (.int .u8 (S.getD 0 0)) := by
      obtain ⟨a', c', hv, _, hx⟩ := below_sl H4.out.1 HS.out.1
      simp only [Value.slice.injEq] at hv
      obtain ⟨rfl, _, rfl⟩ := hv
      rcases hx with hx | ⟨b, o, he, _, hr⟩
      · subst hx; simp at hlen
      · simp only [Option.some.injEq, Addr.mk.injEq] at he
        obtain ⟨rfl, rfl, _⟩ := he
        exact hr 0 (by omega)
    obtain ⟨s0, hs0⟩ : ∃ z, S.getD 0 0 = z := ⟨_, rfl⟩
    rw [hs0] at q0
    by_cases h4 : s0 = 4
    · subst h4
      have hc1 : 97 ≤ cp := by have := HCp.out; omega
      have HFx : Hid (∀ W, Below w.heap.size w W → Calls Try.prog 59 #[.slice (some ⟨bb, off + 1, none⟩) 48 (cp - 1)] W fun e w' => ∃ a n c, e = .returned (.tuple #[.slice a n c, .int .i64 0]) ∧ Nb w' (.slice a n c) (bnum ((S.drop 1).take 48)) ∧ Below W.heap.size W w') := fun W hW => by
        obtain ⟨b, o, he, hs⟩ := sl_part (below_sl hW HS.out.1) 1 48 (by omega) (by omega)
        simp only [Option.some.injEq, Addr.mk.injEq] at he
        obtain ⟨rfl, rfl, _⟩ := he
        exact RFromB _ _ hs (fun x hx => HS.out.2.1 x (List.mem_of_mem_drop (List.mem_of_mem_take hx))) (by rw [List.length_take]; omega)
      have HFy : Hid (∀ W, Below w.heap.size w W → Calls Try.prog 59 #[.slice (some ⟨bb, off + 49, none⟩) 48 (cp - 49)] W fun e w' => ∃ a n c, e = .returned (.tuple #[.slice a n c, .int .i64 0]) ∧ Nb w' (.slice a n c) (bnum (S.drop (1 + 48))) ∧ Below W.heap.size W w') := fun W hW => by
        obtain ⟨b, o, he, hs⟩ := sl_part (below_sl hW HS.out.1) 49 48 (by omega) (by omega)
        simp only [Option.some.injEq, Addr.mk.injEq] at he
        obtain ⟨rfl, rfl, _⟩ := he
        have e1 : (S.drop 49).take 48 = S.drop (1 + 48) := by rw [List.take_of_length_le (by rw [List.length_drop]; omega)]
        rw [e1] at hs
        exact RFromB _ _ hs (fun x hx => HS.out.2.1 x (List.mem_of_mem_drop hx)) (by rw [List.length_drop]; omega)
      have HLx : Hid ((lim (bnum ((S.drop 1).take 48))).length ≤ 1000000) := Nat.le_trans (bnum_len (fun x hx => HS.out.2.1 x (List.mem_of_mem_drop (List.mem_of_mem_take hx)))) (by rw [List.length_take]; omega)
      have HLy : Hid ((lim (bnum (S.drop (1 + 48)))).length ≤ 1000000) := Nat.le_trans (bnum_len (fun x hx => HS.out.2.1 x (List.mem_of_mem_drop hx))) (by rw [List.length_drop]; omega)
      have HE : Hid (prsS 2 S = if farB (lim (bnum ((S.drop 1).take 48))) (lim (bnum (S.drop (1 + 48)))) = false ∧ onB c384.p c384.b (lim (bnum ((S.drop 1).take 48))) (lim (bnum (S.drop (1 + 48)))) = true then (bnum ((S.drop 1).take 48), bnum (S.drop (1 + 48)), 0) else (0, 0, 90)) := by
        show _ = _
        rw [HN.out]; unfold prsC; rw [if_pos ⟨hlen.symm, hs0⟩]; rfl
      obtain ⟨x, hx⟩ : ∃ x, bnum ((S.drop 1).take 48) = x := ⟨_, rfl⟩
      obtain ⟨y, hy⟩ : ∃ y, bnum (S.drop (1 + 48)) = y := ⟨_, rfl⟩
      rw [hx] at HFx HLx HE
      rw [hy] at HFy HLy HE
      clear hlen hs0 HS HN hx hy
      go_wp2_with fail
      refine (HFx.out _ H4.out.1).mono ?_
      rintro e w5 ⟨xa, xn, xc, rfl, hnx, hb5⟩
      have H5 : Hid (Below W4.heap.size W4 w5 ∧ Nb w5 (.slice xa xn xc) x) := ⟨hb5, hnx⟩
      clear hb5 hnx d0 d1 g0 g1 q0
      go_wp2_with fail
      refine (HFy.out _ (below_via H4.out.1 H5.out.1 (Nat.le_refl _))).mono ?_
      rintro e w6 ⟨ya, yn, yc, rfl, hny, hb6⟩
      have H6 : Hid (Below W4.heap.size W4 w6 ∧ Nb w6 (.slice xa xn xc) x ∧ Nb w6 (.slice ya yn yc) y) := ⟨below_via H5.out.1 hb6 (Nat.le_refl _), H5.out.2.below hb6, hny⟩
      clear hb6 hny H5
      go_upto_region 9 with (fail)
      refine wp_gen (fun W => Blk 24 W w6.heap.size [.slice xa xn xc, .slice ya yn yc] ∧ Below w6.heap.size w6 W) ⟨Blk.new _ _ _, al1 _⟩ ?_
      rintro W7 ⟨hB7, hb7⟩
      have hb47 : Below W4.heap.size W4 W7 := below_via H6.out.1 hb7 (Nat.le_refl _)
      have H7 : Hid (Below w.heap.size w W7 ∧ Nb W7 (.slice xa xn xc) x ∧ Nb W7 (.slice ya yn yc) y ∧ Blk 24 W7 w.heap.size [.slice none 0 0, .slice none 0 0] ∧ Blk 24 W7 w6.heap.size [.slice xa xn xc, .slice ya yn yc]) := ⟨below_via H4.out.1 hb47 (Nat.le_refl _), H6.out.2.1.below hb7, H6.out.2.2.below hb7, below_blk hb47 H4.out.2.lt H4.out.2, hB7⟩
      have p0 : W7.cell? ⟨w6.heap.size, 0, none⟩ = some (.slice xa xn xc) := hB7.cell 0
      have p1 : W7.cell? ⟨w6.heap.size, 1, none⟩ = some (.slice ya yn yc) := hB7.cell 1
      clear hB7 hb7 hb47 H6 H4
      go_wp2_with fail
      refine (RFar _ _ (lim x) (lim y) H7.out.2.1 H7.out.2.2.1 (lim_u32 _) (lim_u32 _) HLx.out HLy.out).mono ?_
      rintro e w8 ⟨rfl, hb8⟩
      have H8 : Hid (Below w.heap.size w w8 ∧ Nb w8 (.slice xa xn xc) x ∧ Nb w8 (.slice ya yn yc) y ∧ Blk 24 w8 w.heap.size [.slice none 0 0, .slice none 0 0] ∧ Blk 24 w8 w6.heap.size [.slice xa xn xc, .slice ya yn yc]) := ⟨below_via H7.out.1 hb8 (Nat.le_refl _), H7.out.2.1.below hb8, H7.out.2.2.1.below hb8, below_blk hb8 H7.out.2.2.2.1.lt H7.out.2.2.2.1, below_blk hb8 H7.out.2.2.2.2.lt H7.out.2.2.2.2⟩
      clear hb8 p0 p1 H7
      cases hf : farB (lim x) (lim y) with
      | true =>
        have HE2 : Hid (prsS 2 S = (0, 0, 90)) := HE.out.trans (if_neg (by rw [hf]; simp))
        have d0 : w8.cell? ⟨w.heap.size, 0, none⟩ = some (.slice none 0 0) := H8.out.2.2.2.1.cell 0
        have d1 : w8.cell? ⟨w.heap.size, 1, none⟩ = some (.slice none 0 0) := H8.out.2.2.2.1.cell 1
        have g0 := H8.out.2.2.2.1.frozen 0; have g1 := H8.out.2.2.2.1.frozen 1
        clear hf HE
        go_wp2
        obtain ⟨hF, hU⟩ := Blk.put2 H8.out.2.2.2.1 (.slice none 0 0) (.slice none 0 0)
        have hbl := hU.below H8.out.1 H8.out.1.size (Nat.le_refl _)
        exact bodyPost_ret (results_blk2 rfl rfl hF Try.underlying24 rfl Try.sizePt rfl) rfl (by exact PrsA.no HE2.out hbl)
      | false =>
        have HE1 : Hid (prsS 2 S = if onC 2 (lim x) (lim y) = true then (x, y, 0) else (0, 0, 90)) := by
          show _ = _
          rw [HE.out, hf]; simp only [true_and]; rfl
        clear HE hf
        have p0 : w8.cell? ⟨w6.heap.size, 0, none⟩ = some (.slice xa xn xc) := H8.out.2.2.2.2.cell 0
        have p1 : w8.cell? ⟨w6.heap.size, 1, none⟩ = some (.slice ya yn yc) := H8.out.2.2.2.2.cell 1
        go_wp2_with fail
        refine (ROn_any 2 xa xn xc ya yn yc (lim x) (lim y) H8.out.2.1 H8.out.2.2.1 (lim_u32 _) (lim_u32 _) HLx.out HLy.out).mono ?_
        rintro e w9 ⟨rfl, hb9⟩
        have H9 : Hid (Below w.heap.size w w9 ∧ Nb w9 (.slice xa xn xc) x ∧ Nb w9 (.slice ya yn yc) y ∧ Blk 24 w9 w.heap.size [.slice none 0 0, .slice none 0 0] ∧ Blk 24 w9 w6.heap.size [.slice xa xn xc, .slice ya yn yc]) := ⟨below_via H8.out.1 hb9 (Nat.le_refl _), H8.out.2.1.below hb9, H8.out.2.2.1.below hb9, below_blk hb9 H8.out.2.2.2.1.lt H8.out.2.2.2.1, below_blk hb9 H8.out.2.2.2.2.lt H8.out.2.2.2.2⟩
        have d0 : w9.cell? ⟨w.heap.size, 0, none⟩ = some (.slice none 0 0) := H9.out.2.2.2.1.cell 0
        have d1 : w9.cell? ⟨w.heap.size, 1, none⟩ = some (.slice none 0 0) := H9.out.2.2.2.1.cell 1
        have g0 := H9.out.2.2.2.1.frozen 0; have g1 := H9.out.2.2.2.1.frozen 1
        have p2 : w9.cell? ⟨w6.heap.size, 0, none⟩ = some (.slice xa xn xc) := H9.out.2.2.2.2.cell 0
        have p3 : w9.cell? ⟨w6.heap.size, 1, none⟩ = some (.slice ya yn yc) := H9.out.2.2.2.2.cell 1
        clear hb9 p0 p1 H8
        cases ho : onC 2 (lim x) (lim y) with
        | true =>
          have HE2 : Hid (prsS 2 S = (x, y, 0)) := HE1.out.trans (if_pos ho)
          clear ho HE1
          go_wp2
          obtain ⟨hF, hU⟩ := Blk.put2 H9.out.2.2.2.1 (.slice xa xn xc) (.slice ya yn yc)
          have hbl := hU.below H9.out.1 H9.out.1.size (Nat.le_refl _)
          exact bodyPost_ret (results_blk2 rfl rfl hF Try.underlying24 rfl Try.sizePt rfl) rfl (by exact PrsA.yes HE2.out (H9.out.2.1.upd H9.out.2.2.2.1 noInts hU) (H9.out.2.2.1.upd H9.out.2.2.2.1 noInts hU) hbl)
        | false =>
          have HE2 : Hid (prsS 2 S = (0, 0, 90)) := HE1.out.trans (if_neg (by rw [ho]; decide))
          clear ho HE1
          go_wp2
          obtain ⟨hF, hU⟩ := Blk.put2 H9.out.2.2.2.1 (.slice none 0 0) (.slice none 0 0)
          have hbl := hU.below H9.out.1 H9.out.1.size (Nat.le_refl _)
          exact bodyPost_ret (results_blk2 rfl rfl hF Try.underlying24 rfl Try.sizePt rfl) rfl (by exact PrsA.no HE2.out hbl)
    · have h40 : (s0 != 4) = true := by simp; exact h4
      have HE : Hid (prsS 2 S = (0, 0, 6)) := by show _ = _; rw [HN.out]; unfold prsC; rw [if_neg (by rw [hs0]; omega)]
      clear hs0 h4 HS hlen
      go_wp2
      obtain ⟨hF, hU⟩ := Blk.put2 H4.out.2 (.slice none 0 0) (.slice none 0 0)
      have hbl := hU.below H4.out.1 H4.out.1.size (Nat.le_refl _)
      exact bodyPost_ret (results_blk2 rfl rfl hF Try.underlying24 rfl Try.sizePt rfl) rfl (by exact PrsA.no HE.out hbl)
  · have hn0 : ((n : Int) != 97) = true := by simp; omega
    have HE : Hid (prsS 2 S = (0, 0, 6)) := by show _ = _; rw [HN.out]; unfold prsC; rw [if_neg (by rw [← hlen]; show ¬ (n = 97 ∧ _); omega)]
    clear hn HS hlen
    go_wp2
    obtain ⟨hF, hU⟩ := Blk.put2 H4.out.2 (.slice none 0 0) (.slice none 0 0)
    have hbl := hU.below H4.out.1 H4.out.1.size (Nat.le_refl _)
    exact bodyPost_ret (results_blk2 rfl rfl hF Try.underlying24 rfl Try.sizePt rfl) rfl (by exact PrsA.no HE.out hbl)

theorem RParse_any {w : World} (c : Int) (a : Option Addr) (n cp : Nat) (S : List Int) (hS : Sl .u8 w (.slice a n cp) S) (uS : U8s S) : Calls Try.prog 25 #[.int .i64 c, .slice a n cp] w (PrsA w c S) := by
  by_cases h1 : c = 1
  · subst h1; exact RParse_1 a n cp S hS uS
  by_cases h2 : c = 2
  · subst h2; exact RParse_2 a n cp S hS uS
  · exact RParse_no c (by unfold crv; rw [if_neg h1, if_neg h2]) _ S

end Go.Proofs.Yteagdgbcfbkfbaa
/-
  The reference's asked.
-/
namespace Go.Proofs.Yteagdgbcfbkfbaa
open Go.RowKit
set_option maxRecDepth 20000
/-- What is at fault: the curve, a factor's length, a point. -/
def askR (c : Int) (fn gn : Nat) (p q : Bool) : Int := match crv c with
  | none => 1
  | some _ => if 64 < fn ∨ 64 < gn then 3 else if p = true ∧ q = true then 0 else 90
theorem crv_len {c : Int} {C : Cv} (h : crv c = some C) : (lim (crvN (·.p) (crv c))).length = 8 ∨ (lim (crvN (·.p) (crv c))).length = 12 := by
  unfold crv at h ⊢
  split at h
  · rename_i h1; subst h1; left; show (lim c256.p).length = 8; rw [lim256p]; rfl
  · split at h
    · rename_i h1 h2; subst h2; right; show (lim c384.p).length = 12; rw [lim384p]; rfl
    · cases h
set_option maxHeartbeats 4000000 in
theorem RAsked_any {w : World} (c : Int) (fa : Option Addr) (fn fc : Nat) (ga : Option Addr) (gn gc : Nat) (a1 : Option Addr) (n1 c1 : Nat) (a2 : Option Addr) (n2 c2 : Nat) (X Y : List Int) (b1 : Option Addr) (m1 d1 : Nat) (b2 : Option Addr) (m2 d2 : Nat) (U V : List Int)
    (hX : Sl .u32 w (.slice a1 n1 c1) X) (hY : Sl .u32 w (.slice a2 n2 c2) Y) (uX : U32s X) (uY : U32s Y) (lX : X.length ≤ 1000000) (lY : Y.length ≤ 1000000) (hU : Sl .u32 w (.slice b1 m1 d1) U) (hV : Sl .u32 w (.slice b2 m2 d2) V) (uU : U32s U) (uV : U32s V) (lU : U.length ≤ 1000000) (lV : V.length ≤ 1000000) :
    Calls Try.prog 39 #[.int .i64 c, .slice fa fn fc, .slice ga gn gc, .agg #[.slice a1 n1 c1, .slice a2 n2 c2], .agg #[.slice b1 m1 d1, .slice b2 m2 d2]] w fun e w' => e = .returned (.int .i64 (askR c fn gn (onC c X Y) (onC c U V))) ∧ Below w.heap.size w w' := by
  have HO1 : Hid (∀ W, Below w.heap.size w W → Calls Try.prog 60 #[.int .i64 c, .agg #[.slice a1 n1 c1, .slice a2 n2 c2]] W fun e w' => e = .returned (.bool (onC c X Y)) ∧ Below W.heap.size W w') := fun W h => ROn_any c a1 n1 c1 a2 n2 c2 X Y (below_sl h hX) (below_sl h hY) uX uY lX lY
  have HO2 : Hid (∀ W, Below w.heap.size w W → Calls Try.prog 60 #[.int .i64 c, .agg #[.slice b1 m1 d1, .slice b2 m2 d2]] W fun e w' => e = .returned (.bool (onC c U V)) ∧ Below W.heap.size W w') := fun W h => ROn_any c b1 m1 d1 b2 m2 d2 U V (below_sl h hU) (below_sl h hV) uU uV lU lV
  obtain ⟨p, hp⟩ : ∃ z, onC c X Y = z := ⟨_, rfl⟩
  obtain ⟨q, hq⟩ : ∃ z, onC c U V = z := ⟨_, rfl⟩
  rw [hp] at HO1; rw [hq] at HO2; rw [hp, hq]
  have HP : Hid (∀ W, Calls Try.prog 48 #[.int .i64 c] W fun e w' => ∃ a k, e = .returned (.slice a (lim (crvN (·.p) (crv c))).length k) ∧ Below W.heap.size W w') := fun W => (RPrime_any c).mono fun e w' ⟨r, he, hn, hb⟩ => by obtain ⟨a, k, rfl⟩ := hn.form; exact ⟨a, k, he, hb⟩
  obtain ⟨R, hR⟩ : ∃ R, askR c fn gn p q = R := ⟨_, rfl⟩
  rw [hR]
  have HR : Hid (askR c fn gn p q = R) := hR
  clear hX hY uX uY lX lY hU hV uU uV lU lV hp hq hR
  go_enter Try.func39, Try.ntmps39
  go_upto_region 1 with (first | (refine wpList_boxR rfl 24 (.tmp 3) rfl #[.slice a1 n1 c1, .slice a2 n2 c2] rfl ?_) | (refine wpList_boxR rfl 24 (.tmp 4) rfl #[.slice b1 m1 d1, .slice b2 m2 d2] rfl ?_))
  refine wp_gen (fun W => Blk 24 W w.heap.size [.slice a1 n1 c1, .slice a2 n2 c2] ∧ Blk 24 W (w.heap.size + 1) [.slice b1 m1 d1, .slice b2 m2 d2] ∧ Below w.heap.size w W) ⟨(Blk.new _ w _).alloc _, by have := Blk.new 24 (w.alloc (.cells [.slice a1 n1 c1, .slice a2 n2 c2].toArray 24)) [.slice b1 m1 d1, .slice b2 m2 d2]; rw [World.size_alloc] at this; exact this, (al1 _).alloc (by simp) _⟩ ?_
  rintro W2 ⟨hB, hB2, hBw⟩
  have H2 : Hid (∀ W3, Below W2.heap.size W2 W3 → Below w.heap.size w W3 ∧ W3.cell? ⟨w.heap.size, 0, none⟩ = some (.slice a1 n1 c1) ∧ W3.cell? ⟨w.heap.size, 1, none⟩ = some (.slice a2 n2 c2) ∧ W3.cell? ⟨w.heap.size + 1, 0, none⟩ = some (.slice b1 m1 d1) ∧ W3.cell? ⟨w.heap.size + 1, 1, none⟩ = some (.slice b2 m2 d2)) := fun W3 h3 => ⟨below_via hBw h3 (Nat.le_refl _), (below_blk h3 hB.lt hB).cell 0, (below_blk h3 hB.lt hB).cell 1, (below_blk h3 hB2.lt hB2).cell 0, (below_blk h3 hB2.lt hB2).cell 1⟩
  clear hB hB2 hBw
  go_wp2_with fail
  refine (HP.out _).mono ?_
  rintro e w3 ⟨ra, rk, rfl, hb3⟩
  obtain ⟨hbw, p0, p1, p2, p3⟩ := H2.out _ hb3
  have H3 : Hid (Below W2.heap.size W2 w3 ∧ Below w.heap.size w w3) := ⟨hb3, hbw⟩
  clear hb3 hbw
  cases hc : crv c with
  | none =>
    have hl : (lim (crvN (·.p) none)).length = 0 := by show (lim 0).length = 0; unfold lim; rfl
    rw [hl]
    have HR2 : Hid (1 = R) := by show _ = _; rw [← HR.out]; unfold askR; rw [hc]
    clear hc hl HR
    go_wp2
    go_ret
    exact ⟨by rw [← HR2.out]; rfl, H3.out.2⟩
  | some C =>
    have HR2 : Hid ((if 64 < fn ∨ 64 < gn then 3 else if p = true ∧ q = true then 0 else 90) = R) := by show _ = _; rw [← HR.out]; unfold askR; rw [hc]
    have hl := crv_len hc
    rw [hc] at hl
    obtain ⟨l, hll⟩ : ∃ l, (lim (crvN (·.p) (some C))).length = l := ⟨_, rfl⟩
    rw [hll] at hl ⊢
    have hl0 : ((l : Int) == 0) = false := by rcases hl with h | h <;> (subst h; rfl)
    clear hc hl hll HR
    by_cases hf : fn ≤ 64
    · have gf : decide ((64 : Int) < (fn : Int)) = false := by simp; omega
      by_cases hg : gn ≤ 64
      · have gg : decide ((64 : Int) < (gn : Int)) = false := by simp; omega
        have HR3 : Hid ((if p = true ∧ q = true then 0 else 90) = R) := by show _ = _; rw [← HR2.out, if_neg (show ¬ (64 < fn ∨ 64 < gn) by omega)]
        clear hf hg HR2
        go_wp2_with fail
        refine (HO1.out _ H3.out.2).mono ?_
        rintro e w4 ⟨rfl, hb4⟩
        have hb24 : Below W2.heap.size W2 w4 := below_via H3.out.1 hb4 (Nat.le_refl _)
        obtain ⟨hbw, _, _, q2, q3⟩ := H2.out _ hb24
        have H4 : Hid (Below w.heap.size w w4) := hbw
        clear hb4 hb24 hbw p0 p1 p2 p3
        cases p with
        | false =>
          have HR4 : Hid (90 = R) := by show _ = _; rw [← HR3.out]; rfl
          clear HR3
          go_wp2
          go_ret
          exact ⟨by rw [← HR4.out]; rfl, H4.out⟩
        | true =>
          go_wp2_with fail
          refine (HO2.out _ H4.out).mono ?_
          rintro e w5 ⟨rfl, hb5⟩
          have H5 : Hid (Below w.heap.size w w5) := below_via H4.out hb5 (Nat.le_refl _)
          clear hb5 q2 q3
          cases q with
          | false =>
            have HR4 : Hid (90 = R) := by show _ = _; rw [← HR3.out]; rfl
            clear HR3
            go_wp2
            go_ret
            exact ⟨by rw [← HR4.out]; rfl, H5.out⟩
          | true =>
            have HR4 : Hid (0 = R) := by show _ = _; rw [← HR3.out]; rfl
            clear HR3
            go_wp2
            go_ret
            exact ⟨by rw [← HR4.out]; rfl, H5.out⟩
      · have gg : decide ((64 : Int) < (gn : Int)) = true := by simp; omega
        have HR3 : Hid (3 = R) := by show _ = _; rw [← HR2.out, if_pos (show (64 < fn ∨ 64 < gn) by omega)]
        clear hf hg HR2
        go_wp2
        go_ret
        exact ⟨by rw [← HR3.out]; rfl, H3.out.2⟩
    · have gf : decide ((64 : Int) < (fn : Int)) = true := by simp; omega
      have HR3 : Hid (3 = R) := by show _ = _; rw [← HR2.out, if_pos (show (64 < fn ∨ 64 < gn) by omega)]
      clear hf HR2
      go_wp2
      go_ret
      exact ⟨by rw [← HR3.out]; rfl, H3.out.2⟩
end Go.Proofs.Yteagdgbcfbkfbaa
/-
  Curve: asked, where there is no such curve, or its point is not on it. (wip/mku37.py)
-/
namespace Go.Proofs.Yteagdgbcfbkfbaa
open Go.RowKit
set_option maxRecDepth 20000
set_option maxHeartbeats 4000000 in
theorem asked_no {w : World} (c : Int) (hc : crv c = none) (v u : Value) :
    Calls Try.prog 35 #[.int .i64 c, v, u] w fun e w' => e = .returned (.tuple #[.agg kz.toArray, .int .i64 1]) ∧ Below w.heap.size w w' := by
  go_enter Try.func35, Try.ntmps35
  go_wp2_with fail
  refine (pick_no c hc).mono ?_
  rintro e w3 ⟨rfl, hb3⟩
  have H3 : Hid (Below w.heap.size w w3 ∧ Blk 66 w3 w.heap.size kz) := ⟨below_via (al1 _) hb3 (Nat.le_refl _), below_blk hb3 (newKd w).lt (newKd w)⟩
  clear hb3 hc
  unfold kz
  go_upto_region 2 with (fail)
  refine wp_gen (fun W => Below w3.heap.size w3 W) (al1 _) ?_
  rintro y0 hb4
  have L0 : Hid (Below w.heap.size w y0 ∧ Blk 66 y0 w.heap.size kz) := ⟨below_via H3.out.1 hb4 (Nat.le_refl _), below_blk hb4 H3.out.2.lt H3.out.2⟩
  clear hb4
  have d0 : y0.cell? ⟨w.heap.size, 0, none⟩ = some (.int .i64 0) := L0.out.2.cell 0
  have g0 : y0.frozen? ⟨w.heap.size, 0, none⟩ = false := L0.out.2.frozen 0
  have d1 : y0.cell? ⟨w.heap.size, 1, none⟩ = some (.slice none 0 0) := L0.out.2.cell 1
  have g1 : y0.frozen? ⟨w.heap.size, 1, none⟩ = false := L0.out.2.frozen 1
  have d2 : y0.cell? ⟨w.heap.size, 2, none⟩ = some (.slice none 0 0) := L0.out.2.cell 2
  have g2 : y0.frozen? ⟨w.heap.size, 2, none⟩ = false := L0.out.2.frozen 2
  have d3 : y0.cell? ⟨w.heap.size, 3, none⟩ = some (.slice none 0 0) := L0.out.2.cell 3
  have g3 : y0.frozen? ⟨w.heap.size, 3, none⟩ = false := L0.out.2.frozen 3
  have d4 : y0.cell? ⟨w.heap.size, 4, none⟩ = some (.slice none 0 0) := L0.out.2.cell 4
  have g4 : y0.frozen? ⟨w.heap.size, 4, none⟩ = false := L0.out.2.frozen 4
  have d5 : y0.cell? ⟨w.heap.size, 5, none⟩ = some (.slice none 0 0) := L0.out.2.cell 5
  have g5 : y0.frozen? ⟨w.heap.size, 5, none⟩ = false := L0.out.2.frozen 5
  go_wp2
  obtain ⟨hF, hU⟩ := Blk.put6 L0.out.2 (.int .i64 0) (.slice none 0 0) (.slice none 0 0) (.slice none 0 0) (.slice none 0 0) (.slice none 0 0)
  exact bodyPost_ret (results_blk2 rfl rfl hF Try.underlying66 rfl Try.sizeKd rfl) rfl ⟨rfl, hU.below L0.out.1 L0.out.1.size (Nat.le_refl _)⟩
set_option maxHeartbeats 4000000 in
theorem asked_off {w : World} (c : Int) (C : Cv) (hc : crv c = some C)  (bp : Nat) (Tp : TypeId) (vx0 vy0 : Value) (X0 Y0 : List Int) (hP : Blk Tp w bp [vx0, vy0]) (hX0 : Sl .u32 w vx0 X0) (hY0 : Sl .u32 w vy0 Y0) (uX0 : U32s X0) (uY0 : U32s Y0) (lX0 : X0.length ≤ 1000000) (lY0 : Y0.length ≤ 1000000) (ho0 : onB C.p C.b X0 Y0 = false) :
    Calls Try.prog 35 #[.int .i64 c, .slice none 0 0, .slice (some ⟨bp, 0, none⟩) 1 1] w fun e w' => e = .returned (.tuple #[.agg kz.toArray, .int .i64 90]) ∧ Below w.heap.size w w' := by
  obtain ⟨xa0, xc0, rfl⟩ : ∃ a c, vx0 = .slice a X0.length c := by obtain ⟨a, c, h1, _⟩ := hX0; exact ⟨a, c, h1⟩
  obtain ⟨ya0, yc0, rfl⟩ : ∃ a c, vy0 = .slice a Y0.length c := by obtain ⟨a, c, h1, _⟩ := hY0; exact ⟨a, c, h1⟩
  obtain ⟨xn0, hxn0⟩ : ∃ n, X0.length = n := ⟨_, rfl⟩
  obtain ⟨yn0, hyn0⟩ : ∃ n, Y0.length = n := ⟨_, rfl⟩
  rw [hxn0, hyn0] at hP; rw [hxn0] at hX0; rw [hyn0] at hY0
  have HX0 : Hid (∀ W f rb v0 v2 v4 v5, Below w.heap.size w W → Fld W f C.p → Nb W rb C.b → Calls Try.prog 57 #[.agg #[v0, f, v2, rb, v4, v5], .agg #[(.slice xa0 xn0 xc0), (.slice ya0 yn0 yc0)]] W fun e w' => e = .returned (.bool false) ∧ Below W.heap.size W w') := fun W f rb v0 v2 v4 v5 hW hf hb => ho0 ▸ Kon v0 f v2 rb v4 v5 (.slice xa0 xn0 xc0) (.slice ya0 yn0 yc0) C.p C.b X0 Y0 hf hb (crv_ok hc).2.2.1 (below_sl hW hX0) (below_sl hW hY0) uX0 uY0 lX0 lY0
  have HP : Hid (∀ W, Below w.heap.size w W → Blk Tp W bp [(.slice xa0 xn0 xc0), (.slice ya0 yn0 yc0)]) := fun W hW => below_blk hW hP.lt hP
  have HK : Hid (0 < C.p ∧ C.p < 4294967296 ^ 12) := ⟨(crv_ok hc).1, (crv_ok hc).2.1⟩
  clear hxn0 hyn0 hX0 hY0 uX0 uY0 lX0 lY0 ho0 hP
  go_enter Try.func35, Try.ntmps35
  go_wp2_with fail
  refine (pick_yes c C hc).mono ?_
  rintro e w3 ⟨s, a1, n1, c1, a2, n2, c2, a3, n3, c3, a4, n4, c4, a5, n5, c5, rfl, hk, hb3⟩
  have H3 : Hid (Below w.heap.size w w3 ∧ KindS w3 s a1 n1 c1 a2 n2 c2 a3 n3 c3 a4 n4 c4 a5 n5 c5 C ∧ Blk 66 w3 w.heap.size kz) := ⟨below_via (al1 _) hb3 (Nat.le_refl _), hk, below_blk hb3 (newKd w).lt (newKd w)⟩
  clear hb3 hc hk
  go_upto_region 2 with (fail)
  refine wp_gen (fun W => Blk 66 W w3.heap.size [.int .i64 s, .slice a1 n1 c1, .slice a2 n2 c2, .slice a3 n3 c3, .slice a4 n4 c4, .slice a5 n5 c5] ∧ Below w3.heap.size w3 W) ⟨Blk.new _ _ _, al1 _⟩ ?_
  rintro W4 ⟨hB4, hb4⟩
  have H4 : Hid (Below w.heap.size w W4 ∧ KindS W4 s a1 n1 c1 a2 n2 c2 a3 n3 c3 a4 n4 c4 a5 n5 c5 C ∧ Blk 66 W4 w.heap.size kz ∧ Blk 66 W4 w3.heap.size [.int .i64 s, .slice a1 n1 c1, .slice a2 n2 c2, .slice a3 n3 c3, .slice a4 n4 c4, .slice a5 n5 c5]) := ⟨below_via H3.out.1 hb4 (Nat.le_refl _), H3.out.2.1.below hb4, below_blk hb4 H3.out.2.2.lt H3.out.2.2, hB4⟩
  clear hb4 hB4
  go_wp2
  refine wp_loop_rounds 1 ?_
  rw [rounds_succ]
  go_wp2
  refine wp_loop_rounds 2 ?_
  rw [rounds_succ]
  have p0 : W4.cell? ⟨bp, 0, none⟩ = some (.slice xa0 xn0 xc0) := (HP.out _ H4.out.1).cell 0
  have p1 : W4.cell? ⟨bp, 1, none⟩ = some (.slice ya0 yn0 yc0) := (HP.out _ H4.out.1).cell 1
  go_upto_region 13 with (fail)
  refine wp_gen (fun W => Blk 24 W W4.heap.size [(.slice xa0 xn0 xc0), (.slice ya0 yn0 yc0)] ∧ Below W4.heap.size W4 W) ⟨Blk.new _ _ _, al1 _⟩ ?_
  rintro V0 ⟨hB, hb⟩
  have J0 : Hid (Below w.heap.size w V0 ∧ KindS V0 s a1 n1 c1 a2 n2 c2 a3 n3 c3 a4 n4 c4 a5 n5 c5 C ∧ Blk 66 V0 w.heap.size kz ∧ Blk 66 V0 w3.heap.size [.int .i64 s, .slice a1 n1 c1, .slice a2 n2 c2, .slice a3 n3 c3, .slice a4 n4 c4, .slice a5 n5 c5] ∧ Below W4.heap.size W4 V0) := ⟨below_via H4.out.1 hb (Nat.le_refl _), H4.out.2.1.below hb, below_blk hb H4.out.2.2.1.lt H4.out.2.2.1, below_blk hb H4.out.2.2.2.lt H4.out.2.2.2, hb⟩
  have k0 : V0.cell? ⟨w3.heap.size, 0, none⟩ = some (.int .i64 s) := J0.out.2.2.2.1.cell 0
  have k1 : V0.cell? ⟨w3.heap.size, 1, none⟩ = some (.slice a1 n1 c1) := J0.out.2.2.2.1.cell 1
  have k2 : V0.cell? ⟨w3.heap.size, 2, none⟩ = some (.slice a2 n2 c2) := J0.out.2.2.2.1.cell 2
  have k3 : V0.cell? ⟨w3.heap.size, 3, none⟩ = some (.slice a3 n3 c3) := J0.out.2.2.2.1.cell 3
  have k4 : V0.cell? ⟨w3.heap.size, 4, none⟩ = some (.slice a4 n4 c4) := J0.out.2.2.2.1.cell 4
  have k5 : V0.cell? ⟨w3.heap.size, 5, none⟩ = some (.slice a5 n5 c5) := J0.out.2.2.2.1.cell 5
  have q0 : V0.cell? ⟨W4.heap.size, 0, none⟩ = some (.slice xa0 xn0 xc0) := hB.cell 0
  have q1 : V0.cell? ⟨W4.heap.size, 1, none⟩ = some (.slice ya0 yn0 yc0) := hB.cell 1
  clear p0 p1 hB hb
  go_wp2_with fail
  refine (HX0.out _ _ _ _ _ _ _ J0.out.1 ⟨J0.out.2.1.2.1, HK.out.1, HK.out.2⟩ J0.out.2.1.2.2.2.1).mono ?_
  rintro e y0 ⟨rfl, hb⟩
  have L0 : Hid (Below w.heap.size w y0 ∧ KindS y0 s a1 n1 c1 a2 n2 c2 a3 n3 c3 a4 n4 c4 a5 n5 c5 C ∧ Blk 66 y0 w.heap.size kz ∧ Blk 66 y0 w3.heap.size [.int .i64 s, .slice a1 n1 c1, .slice a2 n2 c2, .slice a3 n3 c3, .slice a4 n4 c4, .slice a5 n5 c5] ∧ True) := ⟨below_via J0.out.1 hb (Nat.le_refl _), J0.out.2.1.below hb, below_blk hb J0.out.2.2.1.lt J0.out.2.2.1, below_blk hb J0.out.2.2.2.1.lt J0.out.2.2.2.1, trivial⟩
  clear hb q0 q1 k0 k1 k2 k3 k4 k5
  have d0 : y0.cell? ⟨w.heap.size, 0, none⟩ = some (.int .i64 0) := L0.out.2.2.1.cell 0
  have g0 : y0.frozen? ⟨w.heap.size, 0, none⟩ = false := L0.out.2.2.1.frozen 0
  have d1 : y0.cell? ⟨w.heap.size, 1, none⟩ = some (.slice none 0 0) := L0.out.2.2.1.cell 1
  have g1 : y0.frozen? ⟨w.heap.size, 1, none⟩ = false := L0.out.2.2.1.frozen 1
  have d2 : y0.cell? ⟨w.heap.size, 2, none⟩ = some (.slice none 0 0) := L0.out.2.2.1.cell 2
  have g2 : y0.frozen? ⟨w.heap.size, 2, none⟩ = false := L0.out.2.2.1.frozen 2
  have d3 : y0.cell? ⟨w.heap.size, 3, none⟩ = some (.slice none 0 0) := L0.out.2.2.1.cell 3
  have g3 : y0.frozen? ⟨w.heap.size, 3, none⟩ = false := L0.out.2.2.1.frozen 3
  have d4 : y0.cell? ⟨w.heap.size, 4, none⟩ = some (.slice none 0 0) := L0.out.2.2.1.cell 4
  have g4 : y0.frozen? ⟨w.heap.size, 4, none⟩ = false := L0.out.2.2.1.frozen 4
  have d5 : y0.cell? ⟨w.heap.size, 5, none⟩ = some (.slice none 0 0) := L0.out.2.2.1.cell 5
  have g5 : y0.frozen? ⟨w.heap.size, 5, none⟩ = false := L0.out.2.2.1.frozen 5
  go_wp2
  obtain ⟨hF, hU⟩ := Blk.put6 L0.out.2.2.1 (.int .i64 0) (.slice none 0 0) (.slice none 0 0) (.slice none 0 0) (.slice none 0 0) (.slice none 0 0)
  exact bodyPost_ret (results_blk2 rfl rfl hF Try.underlying66 rfl Try.sizeKd rfl) rfl ⟨rfl, hU.below L0.out.1 L0.out.1.size (Nat.le_refl _)⟩
end Go.Proofs.Yteagdgbcfbkfbaa
/-
  slices.Grow of nothing, for bytes.
-/
namespace Go.Proofs.Yteagdgbcfbkfbaa
open Go.RowKit
set_option maxRecDepth 20000
theorem zero_cells (k : IntKind) (C : Nat) : Builtin.zeroCells (Value.cells (.int k 0)) C = (List.replicate C (.int k 0)).toArray := by
  apply Array.ext'
  simp only [Builtin.zeroCells, Value.cells]
  simp
  rw [List.eq_replicate_iff]
  exact ⟨by simp, fun y hy => by obtain ⟨j, _, rfl⟩ := List.mem_map.1 hy; simp [Nat.mod_one]⟩
theorem grow_run (w : World) (n : Nat) (h0 : 0 < n) (hn : n ≤ 100000) (ty : TypeId) : ∃ S w', (Builtin.append_ #[45, 3] ty #[.slice none 0 0, .int .i64 n]).run Try.prog w = .ok (.slice (some ⟨w.heap.size, 0, none⟩) n (List.length S)) w' ∧ Arr .u8 5 w' w.heap.size S ∧ n ≤ S.length ∧ S.length ≤ maxLen ∧ Below w.heap.size w w' := by
  obtain ⟨i, hi, he⟩ := Option.map_eq_some_iff.1 Try.info8
  simp only [Prod.mk.injEq] at he
  obtain ⟨hz, hs, hby⟩ := he
  have h := Lib.run_append_nil_zeros (P := Try.prog) w 45 3 ty 5 i (.int .u8 0) .i64 .i64 Try.und8 (by kernel_rfl) hi hz n h0 (by omega) (by omega) (by rw [hby]; omega)
  have hge := grownCap_ge w n 0 5
  have hcm : grownCap w n 0 5 ≤ maxLen := grownCap_le_maxLen w _ 0 5 (by unfold maxLen; omega)
  obtain ⟨C, hC⟩ : ∃ C, grownCap w n 0 5 = n + C := ⟨_, (Nat.add_sub_of_le hge).symm⟩
  rw [hC, Nat.add_sub_cancel_left, zero_cells, zero_cells] at h
  rw [hC] at hcm
  refine ⟨List.replicate (n + C) 0, _, by rw [List.length_replicate]; exact h, ?_, by simp, by simpa using hcm, (Below.refl _ _).drew.alloc (Nat.le_refl _) _⟩
  unfold Arr
  have := heap_alloc_new w.drew (.cells ((List.replicate n (Value.int .u8 0)).toArray ++ (List.replicate C (Value.int .u8 0)).toArray) 5)
  rw [show (w.drew.heap.size) = w.heap.size from rfl] at this
  rw [this]; simp
set_option maxHeartbeats 2000000 in
theorem SGrow {w : World} (n : Nat) (h0 : 0 < n) (hn : n ≤ 100000) : Calls Try.prog 96 #[.slice none 0 0, .int .i64 n] w fun e w' => ∃ v, e = .returned v ∧ Row .u8 5 w.heap.size w' v [] ∧ Below w.heap.size w w' := by
  obtain ⟨S, w1, hap, hA, hnS, hm, hb⟩ := grow_run w n h0 hn 45
  have H1 : Hid (Arr .u8 5 w1 w.heap.size S ∧ S.length ≤ maxLen ∧ Below w.heap.size w w1) := ⟨hA, hm, hb⟩
  obtain ⟨cp, hcp⟩ : ∃ c, S.length = c := ⟨_, rfl⟩
  rw [hcp] at hap hnS
  have HC : Hid (S.length = cp) := hcp
  have g0 : decide (0 < (n : Int)) = true := by simp; omega
  have g1 : decide ((n : Int) < 0) = false := by simp
  clear hA hm hb hcp
  go_enter Try.func96, Try.ntmps96
  go_wp2_with (at_builtin; refine Lib.wpList_append_run _ rfl (.tmp 20) (.tmp 21) 45 3 rfl _ _ rfl rfl _ _ hap ?_)
  go_ret
  exact ⟨_, rfl, .inr ⟨w.heap.size, S, by rw [HC.out]; rfl, Nat.le_refl _, H1.out.1, Nat.zero_le _, rfl, H1.out.2.1⟩, H1.out.2.2⟩
end Go.Proofs.Yteagdgbcfbkfbaa
