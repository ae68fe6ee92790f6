/-
  Clock: moments that are written with years of two digits.
-/
import Derived.Test.YtonfllajceppgaaDoorC7
import Derived.Test.YtonfllajceppgaaDoorC4
namespace Go.Proofs.YtonfllajceppgaaDoor
open Go.RowKit
theorem s90 : (⟨#[90]⟩ : ByteArray) = strOfNums [90] := rfl
theorem s46 : (⟨#[46]⟩ : ByteArray) = strOfNums [46] := rfl
theorem s48 : (⟨#[48]⟩ : ByteArray) = strOfNums [48] := rfl
def cutMo (n : Int) : Mo := ⟨n / 1000000 / 10000, n / 1000000 / 100 % 100, n / 1000000 % 100, n % 1000000 / 10000, n % 1000000 / 100 % 100, n % 1000000 % 100⟩
set_option maxHeartbeats 1000000 in
theorem cutN_any {w : World} (n : Int) (h0 : 0 ≤ n) (h1 : n ≤ 100000000000000) : Calls Tryd.prog 35 #[.int .i64 n] w fun e w' => e = .returned (.agg (cutMo n).cells.toArray) ∧ Below w.heap.size w w' := by
  obtain ⟨a, ha⟩ : ∃ a, n / 1000000 = a := ⟨_, rfl⟩
  obtain ⟨b, hb⟩ : ∃ b, n % 1000000 = b := ⟨_, rfl⟩
  have a0 : 0 ≤ a := by omega
  have a1 : a ≤ 100000000 := by omega
  have b0 : 0 ≤ b := by omega
  have b1 : b < 1000000 := by omega
  have HC : Hid (cutMo n = ⟨a / 10000, a / 100 % 100, a % 100, b / 10000, b / 100 % 100, b % 100⟩) := by
    unfold Hid cutMo; rw [ha, hb]
  go_enter Tryd.func35, Tryd.ntmps35
  go_wp2
  refine bodyPost_ret (v := .agg (Mo.cells ⟨a / 10000, a / 100 % 100, a % 100, b / 10000, b / 100 % 100, b % 100⟩).toArray) (results_blk (b := w.heap.size) (cs := Mo.cells ⟨a / 10000, a / 100 % 100, a % 100, b / 10000, b / 100 % 100, b % 100⟩) rfl rfl (Blk.new _ w _) Tryd.underlying40 rfl Tryd.sizeMo) rfl ⟨by rw [HC.out], al1 _⟩
/-- the moment of twelve digits -/
def utcMo (n : Int) : Mo := if (cutMo n).Y + 1900 < 1950 then { cutMo n with Y := (cutMo n).Y + 1900 + 100 } else { cutMo n with Y := (cutMo n).Y + 1900 }
def UtcMIs (X : List Int) (e : Ending) : Prop :=
  (∃ Y, X = Y ++ [90] ∧ Y.length = 12 ∧ Dgs Y ∧ e = .returned (.tuple #[.agg (utcMo (nval Y)).cells.toArray, .bool true])) ∨
  ((∀ Y, ¬ (X = Y ++ [90] ∧ Y.length = 12 ∧ Dgs Y)) ∧ e = .returned (.tuple #[.agg (Mo.cells ⟨0, 0, 0, 0, 0, 0⟩).toArray, .bool false]))
theorem u90 : U8 90 := by unfold U8; omega
theorem u46 : U8 46 := by unfold U8; omega
theorem u48 : U8 48 := by unfold U8; omega
theorem cutMo_range {n : Int} (h0 : 0 ≤ n) (h1 : n ≤ 100000000000000) : 0 ≤ (cutMo n).Y ∧ (cutMo n).Y ≤ 10000 := by
  unfold cutMo; simp only; omega
set_option maxHeartbeats 2000000 in
theorem utcMoment_any {w : World} (X : List Int) (hU : U8s X) (hl : X.length ≤ 1000000000000) : Calls Tryd.prog 23 #[.string (strOfNums X)] w fun e w' => UtcMIs X e ∧ Below w.heap.size w w' := by
  by_cases hX : ∃ Y, X = Y ++ [90]
  · obtain ⟨Y, rfl⟩ := hX
    have uY : U8s Y := fun x hx => hU x (List.mem_append_left _ hx)
    have lY : Y.length ≤ 1000000000000 := by simp at hl; omega
    have HX : Hid (U8s Y ∧ Y.length ≤ 1000000000000) := ⟨uY, lY⟩
    clear hU hl uY lY
    go_enter Tryd.func23, Tryd.ntmps23
    go_wp2_with fail
    refine (cutSuffix_yes Y 90 u90 HX.out.2).mono ?_
    rintro e w' ⟨rfl, rfl⟩
    go_wp2_with fail
    refine (number_any Y 12 HX.out.1 (by omega)).mono ?_
    rintro e w1 ⟨hN, hb⟩
    have hB1 : Blk 40 w1 w.heap.size (Mo.cells ⟨0, 0, 0, 0, 0, 0⟩) := below_blk hb (by simp) (Blk.new _ w _)
    have hb1 : Below w.heap.size w w1 := (al1 _).trans (hb.mono (by simp))
    clear hb
    rcases hN with ⟨h12, hD, rfl⟩ | ⟨hn, rfl⟩
    · have hv := nval_bound Y hD
      rw [h12] at hv
      obtain ⟨n, hn⟩ : ∃ n, nval Y = n := ⟨_, rfl⟩
      rw [hn] at hv
      have n0 : 0 ≤ n := hv.1
      have n1 : n ≤ 100000000000000 := by have := hv.2; have := pow_le14 (show 12 ≤ 14 by omega); omega
      have H1 : Hid (Below w.heap.size w w1 ∧ Blk 40 w1 w.heap.size (Mo.cells ⟨0, 0, 0, 0, 0, 0⟩)) := ⟨hb1, hB1⟩
      have H2 : Hid (Y.length = 12 ∧ Dgs Y ∧ nval Y = n) := ⟨h12, hD, hn⟩
      rw [hn]
      clear hv hb1 hB1 h12 hD hn
      go_wp2_with fail
      refine (cutN_any n n0 n1).mono ?_
      rintro e w2 ⟨rfl, hb⟩
      have hB2 : Blk 40 w2 w.heap.size (Mo.cells ⟨0, 0, 0, 0, 0, 0⟩) := below_blk hb H1.out.2.lt H1.out.2
      have hb2 : Below w.heap.size w w2 := below_via H1.out.1 hb (Nat.le_refl _)
      obtain ⟨d0, d1, d2, d3, d4, d5, f0, f1, f2, f3, f4, f5⟩ := Mo.facts hB2
      have HU : Hid (utcMo n = if (cutMo n).Y + 1900 < 1950 then { cutMo n with Y := (cutMo n).Y + 1900 + 100 } else { cutMo n with Y := (cutMo n).Y + 1900 }) := rfl
      obtain ⟨t0, t1⟩ := cutMo_range n0 n1
      generalize cutMo n = t at HU t0 t1 ⊢
      obtain ⟨Y', M, D, h, m, s⟩ := t
      simp only at t0 t1 HU
      unfold Mo.cells
      have H3 : Hid (Below w.heap.size w w2 ∧ Blk 40 w2 w.heap.size (Mo.cells ⟨0, 0, 0, 0, 0, 0⟩)) := ⟨hb2, hB2⟩
      clear hb hb2 hB2
      go_upto_region 6 with (fail)
      obtain ⟨hF, hV⟩ := Mo.put H3.out.2 Y' M D h m s
      refine wp_gen (fun W => Below w.heap.size w W ∧ Blk 40 W w.heap.size (Mo.cells ⟨Y', M, D, h, m, s⟩)) ⟨hV.below H3.out.1 H3.out.1.size (Nat.le_refl _), hF⟩ ?_
      clear hF hV d0 d1 d2 d3 d4 d5 f0 f1 f2 f3 f4 f5
      rintro w3 ⟨hb3, hB3⟩
      obtain ⟨d0, d1, d2, d3, d4, d5, f0, f1, f2, f3, f4, f5⟩ := Mo.facts hB3
      have H4 : Hid (Below w.heap.size w w3 ∧ Blk 40 w3 w.heap.size (Mo.cells ⟨Y', M, D, h, m, s⟩)) := ⟨hb3, hB3⟩
      clear hb3 hB3
      by_cases hy : Y' + 1900 < 1950
      · go_upto_region 8 with (fail)
        refine wp_gen (fun W => Below w.heap.size w W ∧ Blk 40 W w.heap.size (Mo.cells ⟨Y' + 1900, M, D, h, m, s⟩)) ⟨(Upd.set w3 w.heap.size 0 (.int .i64 (Y' + 1900))).below H4.out.1 H4.out.1.size (Nat.le_refl _), H4.out.2.set 0 (.int .i64 (Y' + 1900))⟩ ?_
        clear d0 d1 d2 d3 d4 d5 f0 f1 f2 f3 f4 f5
        rintro w4 ⟨hb4, hB4⟩
        obtain ⟨d0, d1, d2, d3, d4, d5, f0, f1, f2, f3, f4, f5⟩ := Mo.facts hB4
        have H4' : Hid (Below w.heap.size w w4 ∧ Blk 40 w4 w.heap.size (Mo.cells ⟨Y' + 1900, M, D, h, m, s⟩)) := ⟨hb4, hB4⟩
        clear hb4 hB4
        simp only at d0
        go_upto_region 9 with (fail)
        refine wp_gen (fun W => Below w.heap.size w W ∧ Blk 40 W w.heap.size (Mo.cells ⟨Y' + 1900 + 100, M, D, h, m, s⟩)) ⟨(Upd.set w4 w.heap.size 0 (.int .i64 (Y' + 1900 + 100))).below H4'.out.1 H4'.out.1.size (Nat.le_refl _), H4'.out.2.set 0 (.int .i64 (Y' + 1900 + 100))⟩ ?_
        clear d0 d1 d2 d3 d4 d5 f0 f1 f2 f3 f4 f5
        rintro w5 ⟨hb5, hB5⟩
        obtain ⟨d0, d1, d2, d3, d4, d5, f0, f1, f2, f3, f4, f5⟩ := Mo.facts hB5
        have H5 : Hid (Below w.heap.size w w5 ∧ Blk 40 w5 w.heap.size (Mo.cells ⟨Y' + 1900 + 100, M, D, h, m, s⟩)) := ⟨hb5, hB5⟩
        clear hb5 hB5
        go_wp2
        obtain ⟨hF, hV⟩ := Mo.put H5.out.2 (Y' + 1900 + 100) M D h m s
        refine bodyPost_ret (results_blk2 rfl rfl hF Tryd.underlying40 rfl Tryd.sizeMo rfl) rfl ⟨Or.inl ⟨Y, rfl, H2.out.1, H2.out.2.1, ?_⟩, hV.below H5.out.1 H5.out.1.size (Nat.le_refl _)⟩
        rw [H2.out.2.2, HU.out, if_pos hy]; rfl
      · go_upto_region 9 with (fail)
        refine wp_gen (fun W => Below w.heap.size w W ∧ Blk 40 W w.heap.size (Mo.cells ⟨Y' + 1900, M, D, h, m, s⟩)) ⟨(Upd.set w3 w.heap.size 0 (.int .i64 (Y' + 1900))).below H4.out.1 H4.out.1.size (Nat.le_refl _), H4.out.2.set 0 (.int .i64 (Y' + 1900))⟩ ?_
        clear d0 d1 d2 d3 d4 d5 f0 f1 f2 f3 f4 f5
        rintro w5 ⟨hb5, hB5⟩
        obtain ⟨d0, d1, d2, d3, d4, d5, f0, f1, f2, f3, f4, f5⟩ := Mo.facts hB5
        have H5 : Hid (Below w.heap.size w w5 ∧ Blk 40 w5 w.heap.size (Mo.cells ⟨Y' + 1900, M, D, h, m, s⟩)) := ⟨hb5, hB5⟩
        clear hb5 hB5
        go_wp2
        obtain ⟨hF, hV⟩ := Mo.put H5.out.2 (Y' + 1900) M D h m s
        refine bodyPost_ret (results_blk2 rfl rfl hF Tryd.underlying40 rfl Tryd.sizeMo rfl) rfl ⟨Or.inl ⟨Y, rfl, H2.out.1, H2.out.2.1, ?_⟩, hV.below H5.out.1 H5.out.1.size (Nat.le_refl _)⟩
        rw [H2.out.2.2, HU.out, if_neg (by omega)]; rfl
    · obtain ⟨d0, d1, d2, d3, d4, d5, f0, f1, f2, f3, f4, f5⟩ := Mo.facts hB1
      have H1 : Hid (Below w.heap.size w w1 ∧ Blk 40 w1 w.heap.size (Mo.cells ⟨0, 0, 0, 0, 0, 0⟩)) := ⟨hb1, hB1⟩
      clear hb1 hB1
      go_wp2
      obtain ⟨hF, hV⟩ := Mo.put H1.out.2 0 0 0 0 0 0
      refine bodyPost_ret (results_blk2 rfl rfl hF Tryd.underlying40 rfl Tryd.sizeMo rfl) rfl ⟨Or.inr ⟨fun Z h => ?_, rfl⟩, hV.below H1.out.1 H1.out.1.size (Nat.le_refl _)⟩
      obtain ⟨h1, h2, h3⟩ := h
      rw [List.append_cancel_right_eq] at h1
      rw [h1] at hn
      exact hn ⟨h2, h3⟩
  · have HX : Hid (U8s X ∧ X.length ≤ 1000000000000 ∧ ∀ Y, X ≠ Y ++ [90]) := ⟨hU, hl, fun Y h => hX ⟨Y, h⟩⟩
    clear hU hl hX
    go_enter Tryd.func23, Tryd.ntmps23
    go_wp2_with fail
    refine (cutSuffix_no X 90 HX.out.1 u90 HX.out.2.1 HX.out.2.2).mono ?_
    rintro e w' ⟨rfl, rfl⟩
    go_wp2_with fail
    refine (number_any X 12 HX.out.1 (by omega)).mono ?_
    rintro e w1 ⟨hN, hb⟩
    obtain ⟨v1, v2, rfl⟩ : ∃ v1 v2, e = .returned (.tuple #[.int .i64 v1, .bool v2]) := by
      rcases hN with ⟨_, _, h⟩ | ⟨_, h⟩ <;> exact ⟨_, _, h⟩
    have hB1 : Blk 40 w1 w.heap.size (Mo.cells ⟨0, 0, 0, 0, 0, 0⟩) := below_blk hb (by simp) (Blk.new _ w _)
    have hb1 : Below w.heap.size w w1 := (al1 _).trans (hb.mono (by simp))
    obtain ⟨d0, d1, d2, d3, d4, d5, f0, f1, f2, f3, f4, f5⟩ := Mo.facts hB1
    have H1 : Hid (Below w.heap.size w w1 ∧ Blk 40 w1 w.heap.size (Mo.cells ⟨0, 0, 0, 0, 0, 0⟩)) := ⟨hb1, hB1⟩
    clear hb1 hB1 hb hN
    go_wp2
    obtain ⟨hF, hV⟩ := Mo.put H1.out.2 0 0 0 0 0 0
    exact bodyPost_ret (results_blk2 rfl rfl hF Tryd.underlying40 rfl Tryd.sizeMo rfl) rfl ⟨Or.inr ⟨fun Z h => HX.out.2.2 Z h.1, rfl⟩, hV.below H1.out.1 H1.out.1.size (Nat.le_refl _)⟩
end Go.Proofs.YtonfllajceppgaaDoor
